/- As Loose, where an operation may turn what was there: of each a relation is known between the world ahead of it and behind it; a condition on the world, C, lasts over each (C true once the operation s is done, C false ahead of it); of values a fact may be known, also of the world, that lasts over the turns of the others. -/
import Derived.StillTail
import Derived.Below
/- A region that draws its order, walked once in the order of the text, where each operation leaves all that was there as it was: what it yields is one value, or a value of which a fact is known that lasts while memory grows. -/
namespace Go.Proofs.YthflflhcbnianaaDoor
open Go Go.RowKit
set_option linter.unusedVariables false

/-- Of what was there nothing has turned. -/
abbrev Ext (w w' : World) : Prop := Below w.heap.size w w'

theorem Ext.refl (w : World) : Ext w w := Below.refl _ _
theorem Ext.trans {a b c : World} (h : Ext a b) (k : Ext b c) : Ext a c := Below.trans h (Below.mono k h.size)

/-- What is known of an operation's value: it is this one; or a fact that lasts. -/
abbrev LR : Type := Sum Value (Value → World → Prop)

def LR.holds : LR → Value → World → Prop
  | .inl c, v, _ => v = c
  | .inr R, v, w => R v w

def LR.fits : LR → Value → Prop
  | .inl c, v => v = c
  | .inr _, _ => True

/-- The fact on an operation's slot, where it has one. -/
def LR.slot (r : LR) (o : Oper) (a : Act) (w : World) : Prop :=
  match r, o.dst with
  | .inr R, some d => d < a.tmps.size → R (a.tmps.getD d undef) w
  | _, _ => True

theorem LR.fits_of {r : LR} {v : Value} {w : World} (h : r.holds v w) : r.fits v := by
  cases r with
  | inl c => exact h
  | inr R => trivial

theorem LR.fits_some (r : LR) : ∃ v, r.fits v := by
  cases r with
  | inl c => exact ⟨c, rfl⟩
  | inr R => exact ⟨undef, trivial⟩

def LR.lasts : LR → Prop
  | .inl _ => True
  | .inr R => ∀ v w w', R v w → Ext w w' → R v w'

def lastsAll : List LR → Prop
  | [] => True
  | r :: l => r.lasts ∧ lastsAll l

theorem lastsAll_spec : ∀ {l : List LR}, lastsAll l → ∀ r ∈ l, r.lasts
  | [], _, _, h => by cases h
  | _ :: _, h, _, hr => by
    cases hr with
    | head => exact h.1
    | tail _ hr => exact lastsAll_spec h.2 _ hr

section
variable {P : Program} {ops : Array Oper} {md : Region.Mode} {C : World → Prop} {L : Nat → LR}

def depRel (md : Region.Mode) (ops : Array Oper) (L : Nat → LR) (o : Oper) (a : Act) (w : World) : Prop :=
  ∀ e ∈ o.after, Region.binds md e = true → ∀ ok, ops[e.on]? = some ok → (L e.on).slot ok a w

def stepL (P : Program) (o : Oper) (a : Act) (w : World) (R : Value → World → Prop) : Prop :=
  o.wp P a w (fun a' w' => ∃ v, a' = a.put o.dst v ∧ Ext w w' ∧ R v w') (fun _ _ _ => False)

/-- Slots of facts are written by nobody else. -/
def LR.isRel : LR → Bool
  | .inr _ => true
  | .inl _ => false

def apartB (ops : Array Oper) (L : Nat → LR) : Bool :=
  (List.range ops.size).all fun k => !(L k).isRel || (List.range ops.size).all fun i => decide (i = k) ||
    (match (ops[k]?).bind (·.dst), (ops[i]?).bind (·.dst) with
     | some d, some e => d != e
     | _, _ => true)

theorem apartB_spec (h : apartB ops L = true) {k i : Nat} {ok oi : Oper} {R : Value → World → Prop} {d : Tmp} (hk : ops[k]? = some ok) (hi : ops[i]? = some oi) (hR : L k = .inr R) (hd : ok.dst = some d) (hne : i ≠ k) : oi.dst ≠ some d := by
  have hk' : k < ops.size := (Array.getElem?_eq_some_iff.1 hk).1
  have hi' : i < ops.size := (Array.getElem?_eq_some_iff.1 hi).1
  have h1 := List.all_eq_true.1 h k (List.mem_range.2 hk')
  rw [hR] at h1
  simp only [LR.isRel, Bool.not_true, Bool.false_or] at h1
  have h2 := List.all_eq_true.1 h1 i (List.mem_range.2 hi')
  simp only [hk, hi, Option.bind_some, hd, hne, decide_false, Bool.false_or] at h2
  intro he
  rw [he] at h2
  simp at h2

theorem slot_put {r : LR} {ok : Oper} {a : Act} {dst : Option Tmp} {v : Value} {w : World} (h : ∀ R d, r = .inr R → ok.dst = some d → dst ≠ some d) : r.slot ok (a.put dst v) w ↔ r.slot ok a w := by
  cases r with
  | inl c => simp [LR.slot]
  | inr R =>
    cases hd : ok.dst with
    | none => simp [LR.slot, hd]
    | some d =>
      have hne := h R d rfl hd
      cases dst with
      | none => rfl
      | some e =>
        have hed : e ≠ d := fun he => hne (by rw [he])
        simp [LR.slot, hd, Act.put, Array.getElem?_setIfInBounds_ne hed]

theorem depRel_put (hA : apartB ops L = true) {o : Oper} {a : Act} {i : Nat} {oi : Oper} {v : Value} {w : World} (hi : ops[i]? = some oi) (hnot : ∀ e ∈ o.after, Region.binds md e = true → e.on ≠ i) : depRel md ops L o (a.put oi.dst v) w ↔ depRel md ops L o a w := by
  unfold depRel
  constructor
  · intro h e he hb ok hok
    exact (slot_put (fun R d hR hd => apartB_spec hA hok hi hR hd (fun hh => hnot e he hb hh.symm))).1 (h e he hb ok hok)
  · intro h e he hb ok hok
    exact (slot_put (fun R d hR hd => apartB_spec hA hok hi hR hd (fun hh => hnot e he hb hh.symm))).2 (h e he hb ok hok)

theorem put_same {a b : Act} {dst : Option Tmp} {u v : Value} (hs : a.tmps.size = b.tmps.size) (h : a.put dst u = a.put dst v) : b.put dst u = b.put dst v := by
  cases dst with
  | none => rfl
  | some d =>
    by_cases hd : d < a.tmps.size
    · have h1 : (a.put (some d) u).tmps[d]? = (a.put (some d) v).tmps[d]? := by rw [h]
      simp [Act.put, hd] at h1
      rw [h1]
    · have hd' : ¬ d < b.tmps.size := by rw [← hs]; exact hd
      simp [Act.put, Array.setIfInBounds, hd']

theorem size_put (a : Act) (dst : Option Tmp) (v : Value) : (a.put dst v).tmps.size = a.tmps.size := by
  cases dst <;> simp [Act.put]

theorem defers_put (a : Act) (dst : Option Tmp) (v : Value) : (a.put dst v).defers = a.defers := by
  cases dst <;> rfl

/-- The step of an operation that does not look at a slot. -/
theorem stepL_congr {o : Oper} {a b : Act} {w : World} {R : Value → World → Prop} (hs : a.tmps.size = b.tmps.size) (he : execOp a.eval o = execOp b.eval o) (h : stepL P o a w R) : stepL P o b w R := by
  unfold stepL Oper.wp at *
  rw [← he]
  generalize (execOp a.eval o).run P w = r at *
  cases r with
  | ok n w' =>
    cases n <;> simp only [Oper.upon] at h ⊢
    case value u => obtain ⟨v, h1, h2⟩ := h; exact ⟨v, put_same hs h1, h2⟩
    case skip => obtain ⟨v, h1, h2⟩ := h; exact ⟨v, put_same hs h1, h2⟩
    case defer d =>
      obtain ⟨v, h1, _⟩ := h
      have := congrArg (fun x : Act => x.defers.length) h1
      simp [defers_put] at this
    case enter f args =>
      refine Calls.mono h fun e w'' he => ?_
      cases e with
      | returned u => obtain ⟨v, h1, h2⟩ := he; exact ⟨v, put_same hs h1, h2⟩
      | panicked c => exact he
      | outgrown => exact he
    case row row args => exact Rows.mono h fun u w'' he => by obtain ⟨v, h1, h2⟩ := he; exact ⟨v, put_same hs h1, h2⟩
  | halt x w' => cases x <;> simp only [Oper.upon] at h ⊢

/-- What is asked of an operation in the walk. -/
def lOp (P : Program) (md : Region.Mode) (ops : Array Oper) (C : World → Prop) (L : Nat → LR) (j : Nat) (K : Act → Prop) (a : Act) : Prop :=
  match ops[j]? with
  | none => K a
  | some o =>
    if Region.wanted o (yielded ops a.tmps) then (∀ w, C w → depRel md ops L o a w → stepL P o a w (L j).holds) ∧ ∀ v, (L j).fits v → K (a.put o.dst v)
    else L j = .inl undef ∧ K (a.put o.dst undef)

def wpAnyX (P : Program) (md : Region.Mode) (ops : Array Oper) (C : World → Prop) (L : Nat → LR) (n : Nat) (Lq : Array Bool → Act → Prop) : Nat → Array Bool → Act → Prop
  | 0, listed, a => Lq listed a
  | f + 1, listed, a =>
    Region.ready md ops listed ≠ [] ∧ ∀ i ∈ Region.ready md ops listed, i < n ∧ lOp P md ops C L i (wpAnyX P md ops C L n Lq f (listed.setIfInBounds i true)) a

/-- All facts on what has come up. -/
def allRel (ops : Array Oper) (L : Nat → LR) (listed : Array Bool) (a : Act) (w : World) : Prop :=
  ∀ k ok, ops[k]? = some ok → listed.getD k false = true → (L k).slot ok a w

theorem LR.slot_ext {r : LR} (hl : r.lasts) {o : Oper} {a : Act} {w w' : World} (h : r.slot o a w) (hE : Ext w w') : r.slot o a w' := by
  cases r with
  | inl c => simp [LR.slot]
  | inr R =>
    cases hd : o.dst with
    | none => simp [LR.slot, hd]
    | some d =>
      simp only [LR.slot, hd] at h ⊢
      exact fun hs => hl _ _ _ (h hs) hE

theorem getD_set_self {listed : Array Bool} {i k : Nat} (h : (listed.setIfInBounds i true).getD k false = true) : k = i ∨ listed.getD k false = true := by
  by_cases hik : i = k
  · exact .inl hik.symm
  · exact .inr (by rwa [getD_set_ne false hik] at h)

theorem allRel_put (hA : apartB ops L = true) (hlast : ∀ k, (L k).lasts) {listed : Array Bool} {a : Act} {w w' : World} {i : Nat} {oi : Oper} {v : Value} (hi : ops[i]? = some oi) (hall : allRel ops L listed a w) (hE : Ext w w') (hv : (L i).holds v w') : allRel ops L (listed.setIfInBounds i true) (a.put oi.dst v) w' := by
  intro k ok hk hl
  by_cases hki : k = i
  · subst hki
    have : ok = oi := Option.some.inj (hk.symm.trans hi)
    subst this
    cases hR : L k with
    | inl c => simp [LR.slot]
    | inr R =>
      cases hd : ok.dst with
      | none => simp [LR.slot, hd]
      | some d =>
        rw [hR] at hv
        simp only [LR.holds] at hv
        simp only [LR.slot, hd, size_put]
        intro hs
        simp [Act.put, hs]
        exact hv
  · have hl' : listed.getD k false = true := (getD_set_self hl).resolve_left hki
    exact (slot_put (fun R d hR hd => apartB_spec hA hk hi hR hd (fun hh => hki hh.symm))).2 (LR.slot_ext (hlast k) (hall k ok hk hl') hE)

theorem wpAny_of_X {n g : Nat} {Lq : Array Bool → Act → Prop} {Q' : Exit → Act → World → Prop} (hA : apartB ops L = true) (hlast : ∀ k, (L k).lasts) (hC : ∀ w w', C w → Ext w w' → C w')
    (hL : ∀ listed a w, Lq listed a → C w → allRel ops L listed a w → wpAny P md ops Q' g listed a w) :
    ∀ (f : Nat) (listed : Array Bool) (a : Act) (w : World), C w → allRel ops L listed a w → wpAnyX P md ops C L n Lq f listed a → wpAny P md ops Q' (f + g) listed a w
  | 0, listed, a, w, hw, hall, h => by rw [Nat.zero_add]; exact hL _ _ _ h hw hall
  | f + 1, listed, a, w, hw, hall, h => by
    rw [show f + 1 + g = (f + g) + 1 by omega]
    refine ⟨fun h0 => absurd h0 h.1, fun i hi => ?_⟩
    obtain ⟨_, oi, hoi, hdeps⟩ := mem_ready.1 hi
    have h1 := (h.2 i hi).2
    unfold lOp at h1
    unfold wpOp
    simp only [hoi] at h1 ⊢
    split
    · rename_i hwant
      simp only [hwant, if_true] at h1
      obtain ⟨hst, hK⟩ := h1
      have hdep : depRel md ops L oi a w := fun e he hb ok hok => hall _ _ hok (hdeps e he hb)
      have hs := hst w hw hdep
      refine .inl ?_
      unfold stepL at hs
      have step : ∀ a' w', (∃ v, a' = a.put oi.dst v ∧ Ext w w' ∧ (L i).holds v w') → wpAny P md ops Q' (f + g) (listed.setIfInBounds i true) a' w' := by
        rintro a' w' ⟨v, rfl, hE, hv⟩
        exact wpAny_of_X hA hlast hC hL f _ _ _ (hC _ _ hw hE) (allRel_put hA hlast hoi hall hE hv) (hK v (LR.fits_of hv))
      unfold Oper.wp at hs ⊢
      generalize (execOp a.eval oi).run P w = r at *
      cases r with
      | ok m w' =>
        cases m <;> simp only [Oper.upon] at hs ⊢
        case enter f args =>
          refine Calls.mono hs fun e w'' he => ?_
          cases e with
          | returned u => exact step _ _ he
          | panicked c => exact he.elim
          | outgrown => obtain ⟨_, _, hh⟩ := he; exact hh.elim
        case row row args => exact Rows.mono hs fun u w'' he => step _ _ he
        all_goals exact step _ _ hs
      | halt x w' => cases x <;> simp only [Oper.upon] at hs
    · rename_i hwant
      simp only [hwant] at h1
      obtain ⟨hv, hK⟩ := h1
      exact wpAny_of_X hA hlast hC hL f _ _ _ hw (allRel_put hA hlast hoi hall (Ext.refl w) (by rw [hv]; rfl)) hK

def Takes (P : Program) (md : Region.Mode) (ops : Array Oper) (C : World → Prop) (L : Nat → LR) (o : Oper) (k : Nat) (a : Act) : Prop :=
  (Region.wanted o (yielded ops a.tmps) = true ∧ ∀ w, C w → depRel md ops L o a w → stepL P o a w (L k).holds) ∨
  (Region.wanted o (yielded ops a.tmps) = false ∧ L k = .inl undef)

theorem lOp_mk {i : Nat} {oi : Oper} {K : Act → Prop} {a : Act} (hi : ops[i]? = some oi) (ht : Takes P md ops C L oi i a) (hK : ∀ v, (L i).fits v → K (a.put oi.dst v)) : lOp P md ops C L i K a := by
  unfold lOp
  simp only [hi]
  rcases ht with ⟨hw, hs⟩ | ⟨hw, hv⟩
  · simp only [hw, if_true]; exact ⟨hs, hK⟩
  · simp only [hw, Bool.false_eq_true, if_false]; exact ⟨hv, hK _ (by rw [hv]; rfl)⟩

theorem lOp_out {i : Nat} {oi : Oper} {K : Act → Prop} {a : Act} (hi : ops[i]? = some oi) (h : lOp P md ops C L i K a) : Takes P md ops C L oi i a ∧ ∀ v, (L i).fits v → K (a.put oi.dst v) := by
  unfold lOp at h
  simp only [hi] at h
  by_cases hw : Region.wanted oi (yielded ops a.tmps) = true
  · simp only [hw, if_true] at h
    exact ⟨.inl ⟨hw, h.1⟩, h.2⟩
  · simp only [hw] at h
    refine ⟨.inr ⟨by simpa using hw, h.1⟩, fun v hv => ?_⟩
    rw [h.1] at hv
    simp only [LR.fits] at hv
    subst hv
    exact h.2

theorem Takes_put (hA : apartB ops L = true) {i k : Nat} {oi o : Oper} {a : Act} {v : Value} (hi : ops[i]? = some oi) (hs : ∀ cs b, o.op ≠ .select cs b)
    (hl : ∀ d, oi.dst = some d → d ∉ o.looksAt ops) (hnot : ∀ e ∈ o.after, Region.binds md e = true → e.on ≠ i) : Takes P md ops C L o k (a.put oi.dst v) ↔ Takes P md ops C L o k a := by
  unfold Takes
  rw [wanted_put o a oi.dst v hl]
  have hx : execOp (a.put oi.dst v).eval o = execOp a.eval o := execOp_put o hs a oi.dst v hl
  have hz := size_put a oi.dst v
  constructor
  · rintro (⟨hw, h⟩ | h)
    · exact .inl ⟨hw, fun w hC hd => stepL_congr hz hx (h w hC ((depRel_put hA hi hnot).2 hd))⟩
    · exact .inr h
  · rintro (⟨hw, h⟩ | h)
    · exact .inl ⟨hw, fun w hC hd => stepL_congr hz.symm hx.symm (h w hC ((depRel_put hA hi hnot).1 hd))⟩
    · exact .inr h

theorem wpAnyX_first {n i : Nat} {oi : Oper} {Lq : Array Bool → Act → Prop} (hA : apartB ops L = true) (hi : ops[i]? = some oi) (hsel : ∀ (j : Nat) (o : Oper) cs b, ops[j]? = some o → o.op ≠ .select cs b)
    (hT : ∀ listed, HeadInv md ops n listed → ∀ i, i < n → listed.getD i true = false → ∀ j ∈ Region.ready md ops listed, j < n) (hin : i < n)
    (hdone : ∀ listed a, Lq listed a → ∀ j ∈ Region.ready md ops listed, n ≤ j) :
    ∀ (f : Nat) (listed : Array Bool) (a : Act), HeadInv md ops n listed →
      (∀ j oj, ops[j]? = some oj → j ≠ i → listed.getD j true = false → (∀ e ∈ oj.after, Region.binds md e = true → e.on ≠ i) → oi.apart ops oj = true) →
      i ∈ Region.ready md ops listed → Takes P md ops C L oi i a →
      (∀ v, (L i).fits v → wpAnyX P md ops C L n Lq f (listed.setIfInBounds i true) (a.put oi.dst v)) → wpAnyX P md ops C L n Lq (f + 1) listed a := by
  intro f
  induction f with
  | zero =>
    intro listed a inv _ hr hy H
    have hun := (mem_ready.1 hr).1
    refine ⟨fun h => (by rw [h] at hr; cases hr), fun j hj => ?_⟩
    have hjn : j < n := hT listed inv i hin hun j hj
    refine ⟨hjn, ?_⟩
    by_cases hji : j = i
    · subst hji; exact lOp_mk hi hy H
    · obtain ⟨v0, hv0⟩ := (L i).fits_some
      have := hdone _ _ (H v0 hv0) j (ready_mono hj hji)
      omega
  | succ f ih =>
    intro listed a inv hfree hr hy H
    have hun := (mem_ready.1 hr).1
    refine ⟨fun h => (by rw [h] at hr; cases hr), fun j hj => ?_⟩
    have hjn : j < n := hT listed inv i hin hun j hj
    refine ⟨hjn, ?_⟩
    by_cases hji : j = i
    · subst hji; exact lOp_mk hi hy H
    · obtain ⟨hjun, oj, hoj, hall⟩ := mem_ready.1 hj
      obtain ⟨_, oi', hoi', halli⟩ := mem_ready.1 hr
      have hoe : oi' = oi := Option.some.inj (hoi'.symm.trans hi)
      subst hoe
      have hnot : ∀ e ∈ oj.after, Region.binds md e = true → e.on ≠ i := fun e he hb heq => by
        have h1 := hall e he hb
        rw [heq, getD_both hun] at h1
        cases h1
      have hnoti : ∀ e ∈ oi'.after, Region.binds md e = true → e.on ≠ j := fun e he hb heq => by
        have h1 := halli e he hb
        rw [heq, getD_both hjun] at h1
        cases h1
      obtain ⟨a1, a2, a3⟩ := Oper.apart_spec (hfree j oj hoj hji hjun hnot)
      have h1 : ∀ v, (L i).fits v → Takes P md ops C L oj j (a.put oi'.dst v) ∧ ∀ u, (L j).fits u → wpAnyX P md ops C L n Lq f ((listed.setIfInBounds i true).setIfInBounds j true) ((a.put oi'.dst v).put oj.dst u) :=
        fun v hv => lOp_out hoj ((H v hv).2 j (ready_mono hj hji)).2
      obtain ⟨v0, hv0⟩ := (L i).fits_some
      have hfree' : ∀ k ok, ops[k]? = some ok → k ≠ i → (listed.setIfInBounds j true).getD k true = false →
          (∀ e ∈ ok.after, Region.binds md e = true → e.on ≠ i) → oi'.apart ops ok = true := fun k ok hk hki hun hno => by
        refine hfree k ok hk hki ?_ hno
        by_cases hjk : j = k
        · subst hjk; exact hjun
        · rw [getD_set_ne true hjk] at hun; exact hun
      refine lOp_mk hoj ((Takes_put hA hi (fun cs b => hsel j oj cs b hoj) a1 hnot).1 (h1 v0 hv0).1) fun u hu => ?_
      refine ih (listed.setIfInBounds j true) (a.put oj.dst u) (inv.set hj hjn) hfree' (ready_mono hr (Ne.symm hji)) ((Takes_put hA hoj (fun cs b => hsel i oi' cs b hi) a3 hnoti).2 hy) fun v hv => ?_
      have h2 := (h1 v hv).2 u hu
      rw [Array.setIfInBounds_comm _ _ (Ne.symm hji), Act.put_comm a v u a2] at h2
      exact h2

/-- The walk in the order of the text. -/
def wpLoose (P : Program) (md : Region.Mode) (ops : Array Oper) (C : World → Prop) (L : Nat → LR) (fin : Act → Prop) : List Oper → Nat → Act → Prop
  | [], _, a => fin a
  | o :: rest, k, a => Takes P md ops C L o k a ∧ ∀ v, (L k).fits v → wpLoose P md ops C L fin rest (k + 1) (a.put o.dst v)

theorem wpAnyX_lex {n g : Nat} {fin : Act → Prop} (hA : apartB ops L = true) (hsel : Region.noSelect ops = true)
    (hT : ∀ listed, HeadInv md ops n listed → ∀ i, i < n → listed.getD i true = false → ∀ j ∈ Region.ready md ops listed, j < n) :
    ∀ (l : List Oper) (k : Nat) (listed : Array Bool) (a : Act), (∀ j, j < l.length → l[j]? = ops[k + j]?) → k + l.length = n → HeadInv md ops n listed → (∀ j, j < k → listed.getD j false = true) →
    Region.lexHead md ops g l.length k listed = true → wpLoose P md ops C L fin l k a →
    wpAnyX P md ops C L n (fun listed' a' => Region.seqB md ops g n listed' = true ∧ (∀ j, j < n → listed'.getD j false = true) ∧ fin a') l.length listed a
  | [], k, listed, a, _, hk, _, hd, hB, h => by
    have : k = n := by simpa using hk
    subst this
    exact ⟨by simpa [Region.lexHead] using hB, hd, h⟩
  | o :: l, k, listed, a, hl, hk, inv, hd, hB, h => by
    have h0 : ops[k]? = some o := by simpa using (hl 0 (by simp)).symm
    simp only [List.length_cons, Region.lexHead, Bool.and_eq_true] at hB
    obtain ⟨⟨hr, hf⟩, hB'⟩ := hB
    have hkn : k < n := by simp only [List.length_cons] at hk; omega
    have hr' : k ∈ Region.ready md ops listed := by simpa using hr
    have hks : k < listed.size := by rw [inv.size]; exact (Array.getElem?_eq_some_iff.1 h0).1
    refine wpAnyX_first hA h0 (Region.noSelect_spec hsel) hT hkn (fun listed' a' hL => seqB_ready hL.1) l.length listed a inv (Region.free_spec h0 hf) hr' h.1 fun v hv => ?_
    refine wpAnyX_lex hA hsel hT l (k + 1) _ _ (fun j hj => by have := hl (j + 1) (by simp; omega); simpa [Nat.add_assoc, Nat.add_comm 1 j] using this) (by simp only [List.length_cons] at hk; omega) (inv.set hr' hkn) (fun j hj => ?_) hB' (h.2 v hv)
    by_cases hjk : k = j
    · subst hjk; simp [hks]
    · rw [getD_set_ne false hjk]; exact hd j (by omega)

/-- Every order of the first n operations, then the others one by one. -/
theorem wp_region_loose_tail {id : Nat} {Q : Exit → Act → World → Prop} {a : Act} {w : World} {l : List Oper} (n : Nat) (Ls : List LR) (S : World → Prop) (hm : P.follows .mixedOrders = true) (hB : Region.lexTailB .any l.toArray n = true)
    (hS : S w.drew) (hSl : ∀ w w', S w → Ext w w' → S w') (hA : apartB l.toArray (fun k => Ls.getD k (.inl undef)) = true) (hlast : lastsAll Ls)
    (h : wpLoose P .any l.toArray (fun w' => Ext w.drew w' ∧ S w') (fun k => Ls.getD k (.inl undef))
      (fun a' => ∀ w', Ext w.drew w' → S w' → (∀ k ok, l[k]? = some ok → k < n → (Ls.getD k (.inl undef)).slot ok a' w') → wpList P l.toArray Q (l.drop n) a' w') (l.take n) 0 a) : (Code.region id l.toArray true).wp P Q a w := by
  simp only [Region.lexTailB, Bool.and_eq_true, decide_eq_true_eq] at hB
  obtain ⟨⟨⟨⟨hsel, hn⟩, hs⟩, hc⟩, hlex⟩ := hB
  have hn' : n < l.length := by simpa using hn
  have htl : (l.take n).length = n := by simp; omega
  have hdl : (l.drop n).length = l.toArray.size - n := by simp
  have inv0 : HeadInv .any l.toArray n (Array.replicate l.toArray.size false) :=
    ⟨by simp, fun j oj _ hl => (by rw [getD_replicate_false] at hl; cases hl), fun t _ ht => getD_in (by simpa using ht) (getD_replicate_false _ _)⟩
  have hT : ∀ listed, HeadInv .any l.toArray n listed → ∀ i, i < n → listed.getD i true = false → ∀ j ∈ Region.ready .any l.toArray listed, j < n := fun listed inv i hin hun j hj => by
    rcases Nat.lt_or_ge j n with h | h
    · exact h
    · exact absurd hj (tail_waits hs hc hn inv _ i rfl hin hun j h)
  have hlast' : ∀ k, (Ls.getD k (.inl undef)).lasts := fun k => by
    rw [List.getD_eq_getElem?_getD]
    cases hk : Ls[k]? with
    | none => trivial
    | some r => exact lastsAll_spec hlast r (List.mem_of_getElem? hk)
  have H := wpAnyX_lex (md := .any) (g := l.toArray.size - n) hA hsel hT (l.take n) 0 _ a (fun j hj => by
    have hj' : j < n := by rw [htl] at hj; exact hj
    simp [hj']) (by simpa using htl) inv0 (fun j hj => by omega) (by rw [htl]; exact hlex) h
  refine wp_region_any hm ?_
  have := wpAny_of_X (Q' := Q) (g := l.toArray.size - n) hA hlast' (fun w1 w2 h1 hE => ⟨h1.1.trans hE, hSl _ _ h1.2 hE⟩) (fun listed a' w' hL hC hall => by
    have := wpAny_of_seq (md := .any) (Q' := Q) (l.drop n) n listed a' w' (fun j => by simp [List.getElem?_drop]) (by rw [hdl]; exact hL.1) (hL.2.2 w' hC.1 hC.2 fun k ok hk hkn => hall k ok (by simpa using hk) (hL.2.1 k hkn))
    rwa [hdl] at this) _ _ _ w.drew ⟨Ext.refl _, hS⟩ (fun k ok _ hl => by rw [getD_replicate_false] at hl; cases hl) H
  rw [htl, show n + (l.toArray.size - n) = l.toArray.size by omega] at this
  exact this

/-- Every order of all operations. -/
theorem wp_region_loose {id : Nat} {Q : Exit → Act → World → Prop} {a : Act} {w : World} {l : List Oper} (Ls : List LR) (S : World → Prop) (hm : P.follows .mixedOrders = true) (hB : Region.lexB .any l.toArray = true)
    (hS : S w.drew) (hSl : ∀ w w', S w → Ext w w' → S w') (hA : apartB l.toArray (fun k => Ls.getD k (.inl undef)) = true) (hlast : lastsAll Ls)
    (h : wpLoose P .any l.toArray (fun w' => Ext w.drew w' ∧ S w') (fun k => Ls.getD k (.inl undef))
      (fun a' => ∀ w', Ext w.drew w' → S w' → (∀ k ok, l[k]? = some ok → (Ls.getD k (.inl undef)).slot ok a' w') → Q .normal a' w') l 0 a) : (Code.region id l.toArray true).wp P Q a w := by
  simp only [Region.lexB, Bool.and_eq_true] at hB
  obtain ⟨hsel, hlex⟩ := hB
  have inv0 : HeadInv .any l.toArray l.length (Array.replicate l.toArray.size false) :=
    ⟨by simp, fun j oj _ hl => (by rw [getD_replicate_false] at hl; cases hl), fun t _ ht => getD_in (by simpa using ht) (getD_replicate_false _ _)⟩
  have hT : ∀ listed, HeadInv .any l.toArray l.length listed → ∀ i, i < l.length → listed.getD i true = false → ∀ j ∈ Region.ready .any l.toArray listed, j < l.length := fun listed inv i hin hun j hj => by
    obtain ⟨_, o, ho, _⟩ := mem_ready.1 hj
    simpa using (Array.getElem?_eq_some_iff.1 ho).1
  have hlast' : ∀ k, (Ls.getD k (.inl undef)).lasts := fun k => by
    rw [List.getD_eq_getElem?_getD]
    cases hk : Ls[k]? with
    | none => trivial
    | some r => exact lastsAll_spec hlast r (List.mem_of_getElem? hk)
  have hlh : ∀ (f k : Nat) (listed : Array Bool), Region.lexFrom .any l.toArray f k listed = true → Region.lexHead .any l.toArray 0 f k listed = true := by
    intro f
    induction f with
    | zero => intro k listed h; simpa [Region.lexFrom, Region.lexHead, Region.seqB] using h
    | succ f ih =>
      intro k listed h
      simp only [Region.lexFrom, Region.lexHead, Bool.and_eq_true] at h ⊢
      exact ⟨h.1, ih _ _ h.2⟩
  have H := wpAnyX_lex (md := .any) (g := 0) (n := l.length) hA hsel hT l 0 _ a (fun j _ => by simp) (by simp) inv0 (fun j hj => by omega) (hlh _ _ _ (by simpa using hlex)) h
  refine wp_region_any hm ?_
  have := wpAny_of_X (Q' := Q) (g := 0) hA hlast' (fun w1 w2 h1 hE => ⟨h1.1.trans hE, hSl _ _ h1.2 hE⟩) (fun listed a' w' hL hC hall =>
    ⟨by simpa [Region.seqB] using hL.1, hL.2.2 w' hC.1 hC.2 fun k ok hk => hall k ok (by simpa using hk) (hL.2.1 k (by rcases Nat.lt_or_ge k l.length with h | h; exact h; simp [List.getElem?_eq_none h] at hk))⟩) _ _ _ w.drew ⟨Ext.refl _, hS⟩ (fun k ok _ hl => by rw [getD_replicate_false] at hl; cases hl) H
  simpa using this

/-- The operation by itself. -/
def bare (o : Oper) : Oper := { o with after := #[], guard := none }

theorem bare_wp {o : Oper} {a : Act} {w : World} {K : Act → World → Prop} {Q : Exit → Act → World → Prop} : (bare o).wp P a w K Q = o.wp P a w K Q := by
  cases o; rfl

/-- One operation by the plain walk: what it yields is this. -/
theorem wpLoose_val {fin : Act → Prop} {o : Oper} {rest : List Oper} {k : Nat} {a a' : Act} {c : Value} (hL : L k = .inl c) (hw : Region.wanted o (yielded ops a.tmps) = true)
    (hs : ∀ w, C w → depRel md ops L o a w → ∀ Q' : Exit → Act → World → Prop, (∀ w', Ext w w' → Q' .normal a' w') → wpList P #[] Q' [bare o] a w)
    (ha : a.put o.dst c = a') (hn : wpLoose P md ops C L fin rest (k + 1) a') : wpLoose P md ops C L fin (o :: rest) k a := by
  refine ⟨.inl ⟨hw, fun w hC hd => ?_⟩, fun v hv => ?_⟩
  · have h1 := hs w hC hd (fun e a'' w' => e = .normal ∧ a'' = a.put o.dst c ∧ Ext w w') (fun w' hE => ⟨rfl, ha.symm, hE⟩)
    unfold wpList at h1
    have hb : Region.wanted (bare o) (yielded #[] a.tmps) = true := rfl
    simp only [hb, if_true, bare_wp] at h1
    rcases h1 with h1 | ⟨_, _, _, h1, _⟩
    · unfold stepL Oper.wp at *
      generalize (execOp a.eval o).run P w = r at *
      rw [hL]
      cases r with
      | ok m w' =>
        cases m <;> simp only [Oper.upon] at h1 ⊢
        case enter f args =>
          refine Calls.mono h1 fun e w'' he => ?_
          cases e with
          | returned u => obtain ⟨_, h2, h3⟩ := he; exact ⟨c, h2, h3, rfl⟩
          | panicked _ => obtain ⟨h2, _⟩ := he; cases h2
          | outgrown => obtain ⟨_, _, h2, _⟩ := he; cases h2
        case row row args => exact Rows.mono h1 fun u w'' he => by obtain ⟨_, h2, h3⟩ := he; exact ⟨c, h2, h3, rfl⟩
        all_goals (obtain ⟨_, h2, h3⟩ := h1; exact ⟨c, h2, h3, rfl⟩)
      | halt x w' => cases x <;> simp only [Oper.upon] at h1 <;> (obtain ⟨h2, _⟩ := h1; cases h2)
    · cases h1
  · rw [hL] at hv
    simp only [LR.fits] at hv
    subst hv
    rw [ha]
    exact hn

/-- One operation by the plain walk: of what it yields a fact is known. -/
theorem wpLoose_rel {fin : Act → Prop} {o : Oper} {rest : List Oper} {k : Nat} {a : Act} {R : Value → World → Prop} (hL : L k = .inr R) (hw : Region.wanted o (yielded ops a.tmps) = true)
    (hs : ∀ w, C w → depRel md ops L o a w → ∀ Q' : Exit → Act → World → Prop, (∀ v w', Ext w w' → R v w' → Q' .normal (a.put o.dst v) w') → wpList P #[] Q' [bare o] a w)
    (hn : ∀ v, wpLoose P md ops C L fin rest (k + 1) (a.put o.dst v)) : wpLoose P md ops C L fin (o :: rest) k a := by
  refine ⟨.inl ⟨hw, fun w hC hd => ?_⟩, fun v _ => hn v⟩
  have h1 := hs w hC hd (fun e a'' w' => e = .normal ∧ ∃ v, a'' = a.put o.dst v ∧ Ext w w' ∧ R v w') (fun v w' hE hR => ⟨rfl, v, rfl, hE, hR⟩)
  unfold wpList at h1
  have hb : Region.wanted (bare o) (yielded #[] a.tmps) = true := rfl
  simp only [hb, if_true, bare_wp] at h1
  rcases h1 with h1 | ⟨_, _, _, h1, _⟩
  · unfold stepL Oper.wp at *
    generalize (execOp a.eval o).run P w = r at *
    rw [hL]
    cases r with
    | ok m w' =>
      cases m <;> simp only [Oper.upon] at h1 ⊢
      case enter f args =>
        refine Calls.mono h1 fun e w'' he => ?_
        cases e with
        | returned u => exact he.2
        | panicked _ => obtain ⟨h2, _⟩ := he; cases h2
        | outgrown => obtain ⟨_, _, h2, _⟩ := he; cases h2
      case row row args => exact Rows.mono h1 fun u w'' he => he.2
      all_goals exact h1.2
    | halt x w' => cases x <;> simp only [Oper.upon] at h1 <;> (obtain ⟨h2, _⟩ := h1; cases h2)
  · cases h1

/-- One operation that is passed over. -/
theorem wpLoose_skip {fin : Act → Prop} {o : Oper} {rest : List Oper} {k : Nat} {a : Act} (hL : L k = .inl undef) (hw : Region.wanted o (yielded ops a.tmps) = false)
    (hn : wpLoose P md ops C L fin rest (k + 1) (a.put o.dst undef)) : wpLoose P md ops C L fin (o :: rest) k a := by
  refine ⟨.inr ⟨hw, hL⟩, fun v hv => ?_⟩
  rw [hL] at hv
  simp only [LR.fits] at hv
  subst hv
  exact hn

theorem wpLoose_nil {fin : Act → Prop} {k : Nat} {a : Act} (h : fin a) : wpLoose P md ops C L fin [] k a := h

end

section
variable {P : Program} {ops : Array Oper} {md : Region.Mode} {C : World → Prop} {L : Nat → LR}

def stepC (P : Program) (C : World → Prop) (o : Oper) (a : Act) (w : World) (R : Value → World → Prop) : Prop :=
  o.wp P a w (fun a' w' => ∃ v, a' = a.put o.dst v ∧ C w' ∧ R v w') (fun _ _ _ => False)

/-- The step of an operation that does not look at a slot. -/
theorem stepC_congr {o : Oper} {a b : Act} {w : World} {R : Value → World → Prop} (hs : a.tmps.size = b.tmps.size) (he : execOp a.eval o = execOp b.eval o) (h : stepC P C o a w R) : stepC P C o b w R := by
  unfold stepC Oper.wp at *
  rw [← he]
  generalize (execOp a.eval o).run P w = r at *
  cases r with
  | ok n w' =>
    cases n <;> simp only [Oper.upon] at h ⊢
    case value u => obtain ⟨v, h1, h2⟩ := h; exact ⟨v, put_same hs h1, h2⟩
    case skip => obtain ⟨v, h1, h2⟩ := h; exact ⟨v, put_same hs h1, h2⟩
    case defer d =>
      obtain ⟨v, h1, _⟩ := h
      have := congrArg (fun x : Act => x.defers.length) h1
      simp [defers_put] at this
    case enter f args =>
      refine Calls.mono h fun e w'' he => ?_
      cases e with
      | returned u => obtain ⟨v, h1, h2⟩ := he; exact ⟨v, put_same hs h1, h2⟩
      | panicked c => exact he
      | outgrown => exact he
    case row row args => exact Rows.mono h fun u w'' he => by obtain ⟨v, h1, h2⟩ := he; exact ⟨v, put_same hs h1, h2⟩
  | halt x w' => cases x <;> simp only [Oper.upon] at h ⊢

end

def LR.lastsT (T : Nat → World → World → Prop) (k : Nat) : LR → Prop
  | .inl _ => True
  | .inr R => ∀ i, i ≠ k → ∀ v w w', R v w → T i w w' → R v w'

def lastsAllT (T : Nat → World → World → Prop) : Nat → List LR → Prop
  | _, [] => True
  | k, r :: l => r.lastsT T k ∧ lastsAllT T (k + 1) l

theorem lastsAllT_spec {T : Nat → World → World → Prop} : ∀ (l : List LR) (k : Nat), lastsAllT T k l → ∀ (j : Nat) (r : LR), l[j]? = some r → LR.lastsT T (k + j) r
  | [], _, _ => fun j r hr => by simp at hr
  | x :: l, k, h => fun j r hr => by
    match j with
    | 0 =>
      simp at hr
      subst hr
      exact h.1
    | j + 1 =>
      have := lastsAllT_spec l (k + 1) h.2 j r (by simpa using hr)
      rw [show k + (j + 1) = k + 1 + j by omega]
      exact this

section
variable {P : Program} {ops : Array Oper} {md : Region.Mode} {C : Bool → World → Prop} {s : Nat} {T : Nat → World → World → Prop} {L : Nat → LR}

def trT (T : Nat → World → World → Prop) (L : Nat → LR) (j : Nat) (w : World) : Value → World → Prop := fun v w' => T j w w' ∧ (L j).holds v w'

/-- What is asked of an operation in the walk. -/
def lOpT (P : Program) (md : Region.Mode) (ops : Array Oper) (C : Bool → World → Prop) (s : Nat) (T : Nat → World → World → Prop) (L : Nat → LR) (j : Nat) (K : Act → Prop) (a : Act) : Prop :=
  match ops[j]? with
  | none => K a
  | some o =>
    if Region.wanted o (yielded ops a.tmps) then (∀ b w, (j = s → b = false) → C b w → depRel md ops L o a w → stepC P (C (if j = s then true else b)) o a w (trT T L j w)) ∧ ∀ v, (L j).fits v → K (a.put o.dst v)
    else L j = .inl undef ∧ K (a.put o.dst undef)

def wpAnyT (P : Program) (md : Region.Mode) (ops : Array Oper) (C : Bool → World → Prop) (s : Nat) (T : Nat → World → World → Prop) (L : Nat → LR) (n : Nat) (Lq : Array Bool → Act → Prop) : Nat → Array Bool → Act → Prop
  | 0, listed, a => Lq listed a
  | f + 1, listed, a =>
    Region.ready md ops listed ≠ [] ∧ ∀ i ∈ Region.ready md ops listed, i < n ∧ lOpT P md ops C s T L i (wpAnyT P md ops C s T L n Lq f (listed.setIfInBounds i true)) a

theorem LR.slot_T {r : LR} {k i : Nat} (hl : r.lastsT T k) (hik : i ≠ k) {o : Oper} {a : Act} {w w' : World} (hT : T i w w') (h : r.slot o a w) : r.slot o a w' := by
  cases r with
  | inl c => simp [LR.slot]
  | inr R =>
    cases hd : o.dst with
    | none => simp [LR.slot, hd]
    | some d =>
      simp only [LR.slot, hd] at h ⊢
      exact fun hs => hl i hik _ _ _ (h hs) hT

theorem allRelT_put (hA : apartB ops L = true) (hlast : ∀ k, (L k).lastsT T k) {listed : Array Bool} {a : Act} {w w' : World} {i : Nat} {oi : Oper} {v : Value} (hi : ops[i]? = some oi) (hall : allRel ops L listed a w) (hT : T i w w') (hv : (L i).holds v w') : allRel ops L (listed.setIfInBounds i true) (a.put oi.dst v) w' := by
  intro k ok hk hl
  by_cases hki : k = i
  · subst hki
    have : ok = oi := Option.some.inj (hk.symm.trans hi)
    subst this
    cases hR : L k with
    | inl c => simp [LR.slot]
    | inr R =>
      cases hd : ok.dst with
      | none => simp [LR.slot, hd]
      | some d =>
        rw [hR] at hv
        simp only [LR.holds] at hv
        simp only [LR.slot, hd, size_put]
        intro hs
        simp [Act.put, hs]
        exact hv
  · have hl' : listed.getD k false = true := (getD_set_self hl).resolve_left hki
    exact (slot_put (fun R d hR hd => apartB_spec hA hk hi hR hd (fun hh => hki hh.symm))).2 (LR.slot_T (hlast k) (Ne.symm hki) hT (hall k ok hk hl'))

theorem allRelT_skip (hA : apartB ops L = true) {listed : Array Bool} {a : Act} {w' : World} {i : Nat} {oi : Oper} {v : Value} (hi : ops[i]? = some oi) (hall : allRel ops L listed a w') (hv : (L i).holds v w') : allRel ops L (listed.setIfInBounds i true) (a.put oi.dst v) w' := by
  intro k ok hk hl
  by_cases hki : k = i
  · subst hki
    have : ok = oi := Option.some.inj (hk.symm.trans hi)
    subst this
    cases hR : L k with
    | inl c => simp [LR.slot]
    | inr R =>
      cases hd : ok.dst with
      | none => simp [LR.slot, hd]
      | some d =>
        rw [hR] at hv
        simp only [LR.holds] at hv
        simp only [LR.slot, hd, size_put]
        intro hs
        simp [Act.put, hs]
        exact hv
  · have hl' : listed.getD k false = true := (getD_set_self hl).resolve_left hki
    exact (slot_put (fun R d hR hd => apartB_spec hA hk hi hR hd (fun hh => hki hh.symm))).2 (hall k ok hk hl')

theorem wpAny_of_T {n g : Nat} {Lq : Array Bool → Act → Prop} {Q' : Exit → Act → World → Prop} (hA : apartB ops L = true) (hlast : ∀ k, (L k).lastsT T k)
    (hns : L s ≠ .inl undef)
    (hL : ∀ listed a w, Lq listed a → C (listed.getD s false) w → allRel ops L listed a w → wpAny P md ops Q' g listed a w) :
    ∀ (f : Nat) (listed : Array Bool) (a : Act) (w : World), C (listed.getD s false) w → allRel ops L listed a w → wpAnyT P md ops C s T L n Lq f listed a → wpAny P md ops Q' (f + g) listed a w
  | 0, listed, a, w, hw, hall, h => by rw [Nat.zero_add]; exact hL _ _ _ h hw hall
  | f + 1, listed, a, w, hw, hall, h => by
    rw [show f + 1 + g = (f + g) + 1 by omega]
    refine ⟨fun h0 => absurd h0 h.1, fun i hi => ?_⟩
    obtain ⟨hun, oi, hoi, hdeps⟩ := mem_ready.1 hi
    have h1 := (h.2 i hi).2
    have hnew : (listed.setIfInBounds i true).getD s false = (if i = s then true else listed.getD s false) := by
      by_cases his : i = s
      · subst his
        rw [if_pos rfl]
        have hsz : i < listed.size := by
          rcases Nat.lt_or_ge i listed.size with hh | hh
          · exact hh
          · simp [Array.getD, Nat.not_lt.2 hh] at hun
        simp [hsz]
      · rw [if_neg his, getD_set_ne false his]
    have hbs : i = s → listed.getD s false = false := fun his => by
      subst his
      exact getD_both hun
    unfold lOpT at h1
    unfold wpOp
    simp only [hoi] at h1 ⊢
    split
    · rename_i hwant
      simp only [hwant, if_true] at h1
      obtain ⟨hst, hK⟩ := h1
      have hdep : depRel md ops L oi a w := fun e he hb ok hok => hall _ _ hok (hdeps e he hb)
      have hs := hst _ w hbs hw hdep
      refine .inl ?_
      unfold stepC at hs
      have step : ∀ a' w', (∃ v, a' = a.put oi.dst v ∧ C (if i = s then true else listed.getD s false) w' ∧ trT T L i w v w') → wpAny P md ops Q' (f + g) (listed.setIfInBounds i true) a' w' := by
        rintro a' w' ⟨v, rfl, hE, hTT, hv⟩
        exact wpAny_of_T hA hlast hns hL f _ _ _ (by rw [hnew]; exact hE) (allRelT_put hA hlast hoi hall hTT hv) (hK v (LR.fits_of hv))
      unfold Oper.wp at hs ⊢
      generalize (execOp a.eval oi).run P w = r at *
      cases r with
      | ok m w' =>
        cases m <;> simp only [Oper.upon] at hs ⊢
        case enter f args =>
          refine Calls.mono hs fun e w'' he => ?_
          cases e with
          | returned u => exact step _ _ he
          | panicked c => exact he.elim
          | outgrown => obtain ⟨_, _, hh⟩ := he; exact hh.elim
        case row row args => exact Rows.mono hs fun u w'' he => step _ _ he
        all_goals exact step _ _ hs
      | halt x w' => cases x <;> simp only [Oper.upon] at hs
    · rename_i hwant
      simp only [hwant] at h1
      obtain ⟨hv, hK⟩ := h1
      exact wpAny_of_T hA hlast hns hL f _ _ _ (by rw [hnew, if_neg (fun his => hns (by rw [← his]; exact hv))]; exact hw) (allRelT_skip hA hoi hall (by rw [hv]; rfl)) hK

def TakesT (P : Program) (md : Region.Mode) (ops : Array Oper) (C : Bool → World → Prop) (s : Nat) (T : Nat → World → World → Prop) (L : Nat → LR) (o : Oper) (k : Nat) (a : Act) : Prop :=
  (Region.wanted o (yielded ops a.tmps) = true ∧ ∀ b w, (k = s → b = false) → C b w → depRel md ops L o a w → stepC P (C (if k = s then true else b)) o a w (trT T L k w)) ∨
  (Region.wanted o (yielded ops a.tmps) = false ∧ L k = .inl undef)

theorem lOpT_mk {i : Nat} {oi : Oper} {K : Act → Prop} {a : Act} (hi : ops[i]? = some oi) (ht : TakesT P md ops C s T L oi i a) (hK : ∀ v, (L i).fits v → K (a.put oi.dst v)) : lOpT P md ops C s T L i K a := by
  unfold lOpT
  simp only [hi]
  rcases ht with ⟨hw, hs⟩ | ⟨hw, hv⟩
  · simp only [hw, if_true]; exact ⟨hs, hK⟩
  · simp only [hw, Bool.false_eq_true, if_false]; exact ⟨hv, hK _ (by rw [hv]; rfl)⟩

theorem lOpT_out {i : Nat} {oi : Oper} {K : Act → Prop} {a : Act} (hi : ops[i]? = some oi) (h : lOpT P md ops C s T L i K a) : TakesT P md ops C s T L oi i a ∧ ∀ v, (L i).fits v → K (a.put oi.dst v) := by
  unfold lOpT at h
  simp only [hi] at h
  by_cases hw : Region.wanted oi (yielded ops a.tmps) = true
  · simp only [hw, if_true] at h
    exact ⟨.inl ⟨hw, h.1⟩, h.2⟩
  · simp only [hw] at h
    refine ⟨.inr ⟨by simpa using hw, h.1⟩, fun v hv => ?_⟩
    rw [h.1] at hv
    simp only [LR.fits] at hv
    subst hv
    exact h.2

theorem TakesT_put (hA : apartB ops L = true) {i k : Nat} {oi o : Oper} {a : Act} {v : Value} (hi : ops[i]? = some oi) (hs : ∀ cs b, o.op ≠ .select cs b)
    (hl : ∀ d, oi.dst = some d → d ∉ o.looksAt ops) (hnot : ∀ e ∈ o.after, Region.binds md e = true → e.on ≠ i) : TakesT P md ops C s T L o k (a.put oi.dst v) ↔ TakesT P md ops C s T L o k a := by
  unfold TakesT
  rw [wanted_put o a oi.dst v hl]
  have hx : execOp (a.put oi.dst v).eval o = execOp a.eval o := execOp_put o hs a oi.dst v hl
  have hz := size_put a oi.dst v
  constructor
  · rintro (⟨hw, h⟩ | h)
    · exact .inl ⟨hw, fun b w hb hC hd => stepC_congr hz hx (h b w hb hC ((depRel_put hA hi hnot).2 hd))⟩
    · exact .inr h
  · rintro (⟨hw, h⟩ | h)
    · exact .inl ⟨hw, fun b w hb hC hd => stepC_congr hz.symm hx.symm (h b w hb hC ((depRel_put hA hi hnot).1 hd))⟩
    · exact .inr h

theorem wpAnyT_first {n i : Nat} {oi : Oper} {Lq : Array Bool → Act → Prop} (hA : apartB ops L = true) (hi : ops[i]? = some oi) (hsel : ∀ (j : Nat) (o : Oper) cs b, ops[j]? = some o → o.op ≠ .select cs b)
    (hT : ∀ listed, HeadInv md ops n listed → ∀ i, i < n → listed.getD i true = false → ∀ j ∈ Region.ready md ops listed, j < n) (hin : i < n)
    (hdone : ∀ listed a, Lq listed a → ∀ j ∈ Region.ready md ops listed, n ≤ j) :
    ∀ (f : Nat) (listed : Array Bool) (a : Act), HeadInv md ops n listed →
      (∀ j oj, ops[j]? = some oj → j ≠ i → listed.getD j true = false → (∀ e ∈ oj.after, Region.binds md e = true → e.on ≠ i) → oi.apart ops oj = true) →
      i ∈ Region.ready md ops listed → TakesT P md ops C s T L oi i a →
      (∀ v, (L i).fits v → wpAnyT P md ops C s T L n Lq f (listed.setIfInBounds i true) (a.put oi.dst v)) → wpAnyT P md ops C s T L n Lq (f + 1) listed a := by
  intro f
  induction f with
  | zero =>
    intro listed a inv _ hr hy H
    have hun := (mem_ready.1 hr).1
    refine ⟨fun h => (by rw [h] at hr; cases hr), fun j hj => ?_⟩
    have hjn : j < n := hT listed inv i hin hun j hj
    refine ⟨hjn, ?_⟩
    by_cases hji : j = i
    · subst hji; exact lOpT_mk hi hy H
    · obtain ⟨v0, hv0⟩ := (L i).fits_some
      have := hdone _ _ (H v0 hv0) j (ready_mono hj hji)
      omega
  | succ f ih =>
    intro listed a inv hfree hr hy H
    have hun := (mem_ready.1 hr).1
    refine ⟨fun h => (by rw [h] at hr; cases hr), fun j hj => ?_⟩
    have hjn : j < n := hT listed inv i hin hun j hj
    refine ⟨hjn, ?_⟩
    by_cases hji : j = i
    · subst hji; exact lOpT_mk hi hy H
    · obtain ⟨hjun, oj, hoj, hall⟩ := mem_ready.1 hj
      obtain ⟨_, oi', hoi', halli⟩ := mem_ready.1 hr
      have hoe : oi' = oi := Option.some.inj (hoi'.symm.trans hi)
      subst hoe
      have hnot : ∀ e ∈ oj.after, Region.binds md e = true → e.on ≠ i := fun e he hb heq => by
        have h1 := hall e he hb
        rw [heq, getD_both hun] at h1
        cases h1
      have hnoti : ∀ e ∈ oi'.after, Region.binds md e = true → e.on ≠ j := fun e he hb heq => by
        have h1 := halli e he hb
        rw [heq, getD_both hjun] at h1
        cases h1
      obtain ⟨a1, a2, a3⟩ := Oper.apart_spec (hfree j oj hoj hji hjun hnot)
      have h1 : ∀ v, (L i).fits v → TakesT P md ops C s T L oj j (a.put oi'.dst v) ∧ ∀ u, (L j).fits u → wpAnyT P md ops C s T L n Lq f ((listed.setIfInBounds i true).setIfInBounds j true) ((a.put oi'.dst v).put oj.dst u) :=
        fun v hv => lOpT_out hoj ((H v hv).2 j (ready_mono hj hji)).2
      obtain ⟨v0, hv0⟩ := (L i).fits_some
      have hfree' : ∀ k ok, ops[k]? = some ok → k ≠ i → (listed.setIfInBounds j true).getD k true = false →
          (∀ e ∈ ok.after, Region.binds md e = true → e.on ≠ i) → oi'.apart ops ok = true := fun k ok hk hki hun hno => by
        refine hfree k ok hk hki ?_ hno
        by_cases hjk : j = k
        · subst hjk; exact hjun
        · rw [getD_set_ne true hjk] at hun; exact hun
      refine lOpT_mk hoj ((TakesT_put hA hi (fun cs b => hsel j oj cs b hoj) a1 hnot).1 (h1 v0 hv0).1) fun u hu => ?_
      refine ih (listed.setIfInBounds j true) (a.put oj.dst u) (inv.set hj hjn) hfree' (ready_mono hr (Ne.symm hji)) ((TakesT_put hA hoj (fun cs b => hsel i oi' cs b hi) a3 hnoti).2 hy) fun v hv => ?_
      have h2 := (h1 v hv).2 u hu
      rw [Array.setIfInBounds_comm _ _ (Ne.symm hji), Act.put_comm a v u a2] at h2
      exact h2

/-- The walk in the order of the text. -/
def wpLooseT (P : Program) (md : Region.Mode) (ops : Array Oper) (C : Bool → World → Prop) (s : Nat) (T : Nat → World → World → Prop) (L : Nat → LR) (fin : Act → Prop) : List Oper → Nat → Act → Prop
  | [], _, a => fin a
  | o :: rest, k, a => TakesT P md ops C s T L o k a ∧ ∀ v, (L k).fits v → wpLooseT P md ops C s T L fin rest (k + 1) (a.put o.dst v)

theorem wpAnyT_lex {n g : Nat} {fin : Act → Prop} (hA : apartB ops L = true) (hsel : Region.noSelect ops = true)
    (hT : ∀ listed, HeadInv md ops n listed → ∀ i, i < n → listed.getD i true = false → ∀ j ∈ Region.ready md ops listed, j < n) :
    ∀ (l : List Oper) (k : Nat) (listed : Array Bool) (a : Act), (∀ j, j < l.length → l[j]? = ops[k + j]?) → k + l.length = n → HeadInv md ops n listed → (∀ j, j < k → listed.getD j false = true) →
    Region.lexHead md ops g l.length k listed = true → wpLooseT P md ops C s T L fin l k a →
    wpAnyT P md ops C s T L n (fun listed' a' => Region.seqB md ops g n listed' = true ∧ (∀ j, j < n → listed'.getD j false = true) ∧ fin a') l.length listed a
  | [], k, listed, a, _, hk, _, hd, hB, h => by
    have : k = n := by simpa using hk
    subst this
    exact ⟨by simpa [Region.lexHead] using hB, hd, h⟩
  | o :: l, k, listed, a, hl, hk, inv, hd, hB, h => by
    have h0 : ops[k]? = some o := by simpa using (hl 0 (by simp)).symm
    simp only [List.length_cons, Region.lexHead, Bool.and_eq_true] at hB
    obtain ⟨⟨hr, hf⟩, hB'⟩ := hB
    have hkn : k < n := by simp only [List.length_cons] at hk; omega
    have hr' : k ∈ Region.ready md ops listed := by simpa using hr
    have hks : k < listed.size := by rw [inv.size]; exact (Array.getElem?_eq_some_iff.1 h0).1
    refine wpAnyT_first hA h0 (Region.noSelect_spec hsel) hT hkn (fun listed' a' hL => seqB_ready hL.1) l.length listed a inv (Region.free_spec h0 hf) hr' h.1 fun v hv => ?_
    refine wpAnyT_lex hA hsel hT l (k + 1) _ _ (fun j hj => by have := hl (j + 1) (by simp; omega); simpa [Nat.add_assoc, Nat.add_comm 1 j] using this) (by simp only [List.length_cons] at hk; omega) (inv.set hr' hkn) (fun j hj => ?_) hB' (h.2 v hv)
    by_cases hjk : k = j
    · subst hjk; simp [hks]
    · rw [getD_set_ne false hjk]; exact hd j (by omega)

/-- Every order of the first n operations, then the others one by one. -/
theorem wp_region_looset_tail {id : Nat} {Q : Exit → Act → World → Prop} {a : Act} {w : World} {l : List Oper} (n : Nat) (s : Nat) (Ls : List LR) (S : Bool → World → Prop) (T : Nat → World → World → Prop) (hm : P.follows .mixedOrders = true) (hB : Region.lexTailB .any l.toArray n = true)
    (hS : S false w.drew) (hsn : s < n) (hns : Ls.getD s (.inl undef) ≠ .inl undef) (hA : apartB l.toArray (fun k => Ls.getD k (.inl undef)) = true) (hlast : lastsAllT T 0 Ls)
    (h : wpLooseT P .any l.toArray S s T (fun k => Ls.getD k (.inl undef))
      (fun a' => ∀ w', S true w' → (∀ k ok, l[k]? = some ok → k < n → (Ls.getD k (.inl undef)).slot ok a' w') → wpList P l.toArray Q (l.drop n) a' w') (l.take n) 0 a) : (Code.region id l.toArray true).wp P Q a w := by
  simp only [Region.lexTailB, Bool.and_eq_true, decide_eq_true_eq] at hB
  obtain ⟨⟨⟨⟨hsel, hn⟩, hs⟩, hc⟩, hlex⟩ := hB
  have hn' : n < l.length := by simpa using hn
  have htl : (l.take n).length = n := by simp; omega
  have hdl : (l.drop n).length = l.toArray.size - n := by simp
  have inv0 : HeadInv .any l.toArray n (Array.replicate l.toArray.size false) :=
    ⟨by simp, fun j oj _ hl => (by rw [getD_replicate_false] at hl; cases hl), fun t _ ht => getD_in (by simpa using ht) (getD_replicate_false _ _)⟩
  have hT : ∀ listed, HeadInv .any l.toArray n listed → ∀ i, i < n → listed.getD i true = false → ∀ j ∈ Region.ready .any l.toArray listed, j < n := fun listed inv i hin hun j hj => by
    rcases Nat.lt_or_ge j n with h | h
    · exact h
    · exact absurd hj (tail_waits hs hc hn inv _ i rfl hin hun j h)
  have hlast' : ∀ k, (Ls.getD k (.inl undef)).lastsT T k := fun k => by
    rw [List.getD_eq_getElem?_getD]
    cases hk : Ls[k]? with
    | none => trivial
    | some r =>
      have := lastsAllT_spec _ _ hlast k r hk
      rw [Nat.zero_add] at this
      exact this
  have H := wpAnyT_lex (md := .any) (g := l.toArray.size - n) hA hsel hT (l.take n) 0 _ a (fun j hj => by
    have hj' : j < n := by rw [htl] at hj; exact hj
    simp [hj']) (by simpa using htl) inv0 (fun j hj => by omega) (by rw [htl]; exact hlex) h
  refine wp_region_any hm ?_
  have := wpAny_of_T (Q' := Q) (s := s) (g := l.toArray.size - n) hA hlast' hns (fun listed a' w' hL hC hall => by
    have := wpAny_of_seq (md := .any) (Q' := Q) (l.drop n) n listed a' w' (fun j => by simp [List.getElem?_drop]) (by rw [hdl]; exact hL.1) (hL.2.2 w' (by rw [hL.2.1 s hsn] at hC; exact hC) fun k ok hk hkn => hall k ok (by simpa using hk) (hL.2.1 k hkn))
    rwa [hdl] at this) _ _ _ w.drew (by rw [getD_replicate_false]; exact hS) (fun k ok _ hl => by rw [getD_replicate_false] at hl; cases hl) H
  rw [htl, show n + (l.toArray.size - n) = l.toArray.size by omega] at this
  exact this

/-- One operation by the plain walk: what it yields is this. -/
theorem wpLooseT_val {fin : Act → Prop} {o : Oper} {rest : List Oper} {k : Nat} {a a' : Act} {c : Value} (hL : L k = .inl c) (hw : Region.wanted o (yielded ops a.tmps) = true) (hks : k ≠ s)
    (hs : ∀ b w, C b w → depRel md ops L o a w → ∀ Q' : Exit → Act → World → Prop, (∀ w', C b w' ∧ T k w w' → Q' .normal a' w') → wpList P #[] Q' [bare o] a w)
    (ha : a.put o.dst c = a') (hn : wpLooseT P md ops C s T L fin rest (k + 1) a') : wpLooseT P md ops C s T L fin (o :: rest) k a := by
  refine ⟨.inl ⟨hw, fun b w _ hC hd => ?_⟩, fun v hv => ?_⟩
  · rw [if_neg hks]
    have h1 := hs b w hC hd (fun e a'' w' => e = .normal ∧ a'' = a.put o.dst c ∧ C b w' ∧ T k w w') (fun w' hE => ⟨rfl, ha.symm, hE.1, hE.2⟩)
    unfold wpList at h1
    have hb : Region.wanted (bare o) (yielded #[] a.tmps) = true := rfl
    simp only [hb, if_true, bare_wp] at h1
    rcases h1 with h1 | ⟨_, _, _, h1, _⟩
    · unfold stepC Oper.wp at *
      generalize (execOp a.eval o).run P w = r at *
      unfold trT
      rw [hL]
      cases r with
      | ok m w' =>
        cases m <;> simp only [Oper.upon] at h1 ⊢
        case enter f args =>
          refine Calls.mono h1 fun e w'' he => ?_
          cases e with
          | returned u => obtain ⟨_, h2, h3, h4⟩ := he; exact ⟨c, h2, h3, h4, rfl⟩
          | panicked _ => obtain ⟨h2, _⟩ := he; cases h2
          | outgrown => obtain ⟨_, _, h2, _⟩ := he; cases h2
        case row row args => exact Rows.mono h1 fun u w'' he => by obtain ⟨_, h2, h3, h4⟩ := he; exact ⟨c, h2, h3, h4, rfl⟩
        all_goals (obtain ⟨_, h2, h3, h4⟩ := h1; exact ⟨c, h2, h3, h4, rfl⟩)
      | halt x w' => cases x <;> simp only [Oper.upon] at h1 <;> (obtain ⟨h2, _⟩ := h1; cases h2)
    · cases h1
  · rw [hL] at hv
    simp only [LR.fits] at hv
    subst hv
    rw [ha]
    exact hn

/-- One operation by the plain walk: of what it yields a fact is known. -/
theorem wpLooseT_rel {fin : Act → Prop} {o : Oper} {rest : List Oper} {k : Nat} {a : Act} {R : Value → World → Prop} (hL : L k = .inr R) (hw : Region.wanted o (yielded ops a.tmps) = true) (hks : k ≠ s)
    (hs : ∀ b w, C b w → depRel md ops L o a w → ∀ Q' : Exit → Act → World → Prop, (∀ v w', C b w' ∧ T k w w' ∧ R v w' → Q' .normal (a.put o.dst v) w') → wpList P #[] Q' [bare o] a w)
    (hn : ∀ v, wpLooseT P md ops C s T L fin rest (k + 1) (a.put o.dst v)) : wpLooseT P md ops C s T L fin (o :: rest) k a := by
  refine ⟨.inl ⟨hw, fun b w _ hC hd => ?_⟩, fun v _ => hn v⟩
  rw [if_neg hks]
  have h1 := hs b w hC hd (fun e a'' w' => e = .normal ∧ ∃ v, a'' = a.put o.dst v ∧ C b w' ∧ T k w w' ∧ R v w') (fun v w' hE => ⟨rfl, v, rfl, hE.1, hE.2.1, hE.2.2⟩)
  unfold wpList at h1
  have hb : Region.wanted (bare o) (yielded #[] a.tmps) = true := rfl
  simp only [hb, if_true, bare_wp] at h1
  rcases h1 with h1 | ⟨_, _, _, h1, _⟩
  · unfold stepC Oper.wp at *
    generalize (execOp a.eval o).run P w = r at *
    unfold trT
    rw [hL]
    cases r with
    | ok m w' =>
      cases m <;> simp only [Oper.upon] at h1 ⊢
      case enter f args =>
        refine Calls.mono h1 fun e w'' he => ?_
        cases e with
        | returned u => exact he.2
        | panicked _ => obtain ⟨h2, _⟩ := he; cases h2
        | outgrown => obtain ⟨_, _, h2, _⟩ := he; cases h2
      case row row args => exact Rows.mono h1 fun u w'' he => he.2
      all_goals exact h1.2
    | halt x w' => cases x <;> simp only [Oper.upon] at h1 <;> (obtain ⟨h2, _⟩ := h1; cases h2)
  · cases h1

/-- One operation by the plain walk: the one behind which C has turned. -/
theorem wpLooseT_spec {fin : Act → Prop} {o : Oper} {rest : List Oper} {k : Nat} {a : Act} {R : Value → World → Prop} (hL : L k = .inr R) (hw : Region.wanted o (yielded ops a.tmps) = true) (hks : k = s)
    (hs : ∀ w, C false w → depRel md ops L o a w → ∀ Q' : Exit → Act → World → Prop, (∀ v w', C true w' ∧ T k w w' ∧ R v w' → Q' .normal (a.put o.dst v) w') → wpList P #[] Q' [bare o] a w)
    (hn : ∀ v, wpLooseT P md ops C s T L fin rest (k + 1) (a.put o.dst v)) : wpLooseT P md ops C s T L fin (o :: rest) k a := by
  refine ⟨.inl ⟨hw, fun b w hb hC hd => ?_⟩, fun v _ => hn v⟩
  rw [if_pos hks]
  rw [hb hks] at hC
  have h1 := hs w hC hd (fun e a'' w' => e = .normal ∧ ∃ v, a'' = a.put o.dst v ∧ C true w' ∧ T k w w' ∧ R v w') (fun v w' hE => ⟨rfl, v, rfl, hE.1, hE.2.1, hE.2.2⟩)
  unfold wpList at h1
  have hb : Region.wanted (bare o) (yielded #[] a.tmps) = true := rfl
  simp only [hb, if_true, bare_wp] at h1
  rcases h1 with h1 | ⟨_, _, _, h1, _⟩
  · unfold stepC Oper.wp at *
    generalize (execOp a.eval o).run P w = r at *
    unfold trT
    rw [hL]
    cases r with
    | ok m w' =>
      cases m <;> simp only [Oper.upon] at h1 ⊢
      case enter f args =>
        refine Calls.mono h1 fun e w'' he => ?_
        cases e with
        | returned u => exact he.2
        | panicked _ => obtain ⟨h2, _⟩ := he; cases h2
        | outgrown => obtain ⟨_, _, h2, _⟩ := he; cases h2
      case row row args => exact Rows.mono h1 fun u w'' he => he.2
      all_goals exact h1.2
    | halt x w' => cases x <;> simp only [Oper.upon] at h1 <;> (obtain ⟨h2, _⟩ := h1; cases h2)
  · cases h1

theorem wpLooseT_nil {fin : Act → Prop} {k : Nat} {a : Act} (h : fin a) : wpLooseT P md ops C s T L fin [] k a := h

end

end Go.Proofs.YthflflhcbnianaaDoor
