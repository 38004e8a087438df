/- Spec's reader of signs: a rule. -/
import Derived.Test.YtojaohdmfahpmaaGreatDoorPackReadPolicy48
import Derived.Deep.AppendLies
/- As Loose, where an operation may turn what was there: of each a relation is known between the world ahead of it and behind it; a condition on the world, C, lasts over each (C true once the operation s is done, C false ahead of it); of values a fact may be known, also of the world, that lasts over the turns of the others. -/
namespace Go.Proofs.YtojaohdmfahpmaaGreatDoor
open Go Go.RowKit
set_option linter.unusedVariables false

def LR.lastsT (T : Nat → World → World → Prop) (k : Nat) : LR → Prop
  | .inl _ => True
  | .inr R => ∀ i, i ≠ k → ∀ v w w', R v w → T i w w' → R v w'

def lastsAllT (T : Nat → World → World → Prop) : Nat → List LR → Prop
  | _, [] => True
  | k, r :: l => r.lastsT T k ∧ lastsAllT T (k + 1) l

theorem lastsAllT_spec {T : Nat → World → World → Prop} : ∀ (l : List LR) (k : Nat), lastsAllT T k l → ∀ (j : Nat) (r : LR), l[j]? = some r → LR.lastsT T (k + j) r
  | [], _, _ => fun j r hr => by simp at hr
  | x :: l, k, h => fun j r hr => by
    match j with
    | 0 =>
      simp at hr
      subst hr
      exact h.1
    | j + 1 =>
      have := lastsAllT_spec l (k + 1) h.2 j r (by simpa using hr)
      rw [show k + (j + 1) = k + 1 + j by omega]
      exact this

section
variable {P : Program} {ops : Array Oper} {md : Region.Mode} {C : Bool → World → Prop} {s : Nat} {T : Nat → World → World → Prop} {L : Nat → LR}

def trT (T : Nat → World → World → Prop) (L : Nat → LR) (j : Nat) (w : World) : Value → World → Prop := fun v w' => T j w w' ∧ (L j).holds v w'

/-- What is asked of an operation in the walk. -/
def lOpT (P : Program) (md : Region.Mode) (ops : Array Oper) (C : Bool → World → Prop) (s : Nat) (T : Nat → World → World → Prop) (L : Nat → LR) (j : Nat) (K : Act → Prop) (a : Act) : Prop :=
  match ops[j]? with
  | none => K a
  | some o =>
    if Region.wanted o (yielded ops a.tmps) then (∀ b w, (j = s → b = false) → C b w → depRel md ops L o a w → stepC P (C (if j = s then true else b)) o a w (trT T L j w)) ∧ ∀ v, (L j).fits v → K (a.put o.dst v)
    else L j = .inl undef ∧ K (a.put o.dst undef)

def wpAnyT (P : Program) (md : Region.Mode) (ops : Array Oper) (C : Bool → World → Prop) (s : Nat) (T : Nat → World → World → Prop) (L : Nat → LR) (n : Nat) (Lq : Array Bool → Act → Prop) : Nat → Array Bool → Act → Prop
  | 0, listed, a => Lq listed a
  | f + 1, listed, a =>
    Region.ready md ops listed ≠ [] ∧ ∀ i ∈ Region.ready md ops listed, i < n ∧ lOpT P md ops C s T L i (wpAnyT P md ops C s T L n Lq f (listed.setIfInBounds i true)) a

theorem LR.slot_T {r : LR} {k i : Nat} (hl : r.lastsT T k) (hik : i ≠ k) {o : Oper} {a : Act} {w w' : World} (hT : T i w w') (h : r.slot o a w) : r.slot o a w' := by
  cases r with
  | inl c => simp [LR.slot]
  | inr R =>
    cases hd : o.dst with
    | none => simp [LR.slot, hd]
    | some d =>
      simp only [LR.slot, hd] at h ⊢
      exact fun hs => hl i hik _ _ _ (h hs) hT

theorem allRelT_put (hA : apartB ops L = true) (hlast : ∀ k, (L k).lastsT T k) {listed : Array Bool} {a : Act} {w w' : World} {i : Nat} {oi : Oper} {v : Value} (hi : ops[i]? = some oi) (hall : allRel ops L listed a w) (hT : T i w w') (hv : (L i).holds v w') : allRel ops L (listed.setIfInBounds i true) (a.put oi.dst v) w' := by
  intro k ok hk hl
  by_cases hki : k = i
  · subst hki
    have : ok = oi := Option.some.inj (hk.symm.trans hi)
    subst this
    cases hR : L k with
    | inl c => simp [LR.slot]
    | inr R =>
      cases hd : ok.dst with
      | none => simp [LR.slot, hd]
      | some d =>
        rw [hR] at hv
        simp only [LR.holds] at hv
        simp only [LR.slot, hd, size_put]
        intro hs
        simp [Act.put, hs]
        exact hv
  · have hl' : listed.getD k false = true := (getD_set_self hl).resolve_left hki
    exact (slot_put (fun R d hR hd => apartB_spec hA hk hi hR hd (fun hh => hki hh.symm))).2 (LR.slot_T (hlast k) (Ne.symm hki) hT (hall k ok hk hl'))

theorem allRelT_skip (hA : apartB ops L = true) {listed : Array Bool} {a : Act} {w' : World} {i : Nat} {oi : Oper} {v : Value} (hi : ops[i]? = some oi) (hall : allRel ops L listed a w') (hv : (L i).holds v w') : allRel ops L (listed.setIfInBounds i true) (a.put oi.dst v) w' := by
  intro k ok hk hl
  by_cases hki : k = i
  · subst hki
    have : ok = oi := Option.some.inj (hk.symm.trans hi)
    subst this
    cases hR : L k with
    | inl c => simp [LR.slot]
    | inr R =>
      cases hd : ok.dst with
      | none => simp [LR.slot, hd]
      | some d =>
        rw [hR] at hv
        simp only [LR.holds] at hv
        simp only [LR.slot, hd, size_put]
        intro hs
        simp [Act.put, hs]
        exact hv
  · have hl' : listed.getD k false = true := (getD_set_self hl).resolve_left hki
    exact (slot_put (fun R d hR hd => apartB_spec hA hk hi hR hd (fun hh => hki hh.symm))).2 (hall k ok hk hl')

theorem wpAny_of_T {n g : Nat} {Lq : Array Bool → Act → Prop} {Q' : Exit → Act → World → Prop} (hA : apartB ops L = true) (hlast : ∀ k, (L k).lastsT T k)
    (hns : L s ≠ .inl undef)
    (hL : ∀ listed a w, Lq listed a → C (listed.getD s false) w → allRel ops L listed a w → wpAny P md ops Q' g listed a w) :
    ∀ (f : Nat) (listed : Array Bool) (a : Act) (w : World), C (listed.getD s false) w → allRel ops L listed a w → wpAnyT P md ops C s T L n Lq f listed a → wpAny P md ops Q' (f + g) listed a w
  | 0, listed, a, w, hw, hall, h => by rw [Nat.zero_add]; exact hL _ _ _ h hw hall
  | f + 1, listed, a, w, hw, hall, h => by
    rw [show f + 1 + g = (f + g) + 1 by omega]
    refine ⟨fun h0 => absurd h0 h.1, fun i hi => ?_⟩
    obtain ⟨hun, oi, hoi, hdeps⟩ := mem_ready.1 hi
    have h1 := (h.2 i hi).2
    have hnew : (listed.setIfInBounds i true).getD s false = (if i = s then true else listed.getD s false) := by
      by_cases his : i = s
      · subst his
        rw [if_pos rfl]
        have hsz : i < listed.size := by
          rcases Nat.lt_or_ge i listed.size with hh | hh
          · exact hh
          · simp [Array.getD, Nat.not_lt.2 hh] at hun
        simp [hsz]
      · rw [if_neg his, getD_set_ne false his]
    have hbs : i = s → listed.getD s false = false := fun his => by
      subst his
      exact getD_both hun
    unfold lOpT at h1
    unfold wpOp
    simp only [hoi] at h1 ⊢
    split
    · rename_i hwant
      simp only [hwant, if_true] at h1
      obtain ⟨hst, hK⟩ := h1
      have hdep : depRel md ops L oi a w := fun e he hb ok hok => hall _ _ hok (hdeps e he hb)
      have hs := hst _ w hbs hw hdep
      refine .inl ?_
      unfold stepC at hs
      have step : ∀ a' w', (∃ v, a' = a.put oi.dst v ∧ C (if i = s then true else listed.getD s false) w' ∧ trT T L i w v w') → wpAny P md ops Q' (f + g) (listed.setIfInBounds i true) a' w' := by
        rintro a' w' ⟨v, rfl, hE, hTT, hv⟩
        exact wpAny_of_T hA hlast hns hL f _ _ _ (by rw [hnew]; exact hE) (allRelT_put hA hlast hoi hall hTT hv) (hK v (LR.fits_of hv))
      unfold Oper.wp at hs ⊢
      generalize (execOp a.eval oi).run P w = r at *
      cases r with
      | ok m w' =>
        cases m <;> simp only [Oper.upon] at hs ⊢
        case enter f args =>
          refine Calls.mono hs fun e w'' he => ?_
          cases e with
          | returned u => exact step _ _ he
          | panicked c => exact he.elim
          | outgrown => obtain ⟨_, _, hh⟩ := he; exact hh.elim
        case row row args => exact Rows.mono hs fun u w'' he => step _ _ he
        all_goals exact step _ _ hs
      | halt x w' => cases x <;> simp only [Oper.upon] at hs
    · rename_i hwant
      simp only [hwant] at h1
      obtain ⟨hv, hK⟩ := h1
      exact wpAny_of_T hA hlast hns hL f _ _ _ (by rw [hnew, if_neg (fun his => hns (by rw [← his]; exact hv))]; exact hw) (allRelT_skip hA hoi hall (by rw [hv]; rfl)) hK

def TakesT (P : Program) (md : Region.Mode) (ops : Array Oper) (C : Bool → World → Prop) (s : Nat) (T : Nat → World → World → Prop) (L : Nat → LR) (o : Oper) (k : Nat) (a : Act) : Prop :=
  (Region.wanted o (yielded ops a.tmps) = true ∧ ∀ b w, (k = s → b = false) → C b w → depRel md ops L o a w → stepC P (C (if k = s then true else b)) o a w (trT T L k w)) ∨
  (Region.wanted o (yielded ops a.tmps) = false ∧ L k = .inl undef)

theorem lOpT_mk {i : Nat} {oi : Oper} {K : Act → Prop} {a : Act} (hi : ops[i]? = some oi) (ht : TakesT P md ops C s T L oi i a) (hK : ∀ v, (L i).fits v → K (a.put oi.dst v)) : lOpT P md ops C s T L i K a := by
  unfold lOpT
  simp only [hi]
  rcases ht with ⟨hw, hs⟩ | ⟨hw, hv⟩
  · simp only [hw, if_true]; exact ⟨hs, hK⟩
  · simp only [hw, Bool.false_eq_true, if_false]; exact ⟨hv, hK _ (by rw [hv]; rfl)⟩

theorem lOpT_out {i : Nat} {oi : Oper} {K : Act → Prop} {a : Act} (hi : ops[i]? = some oi) (h : lOpT P md ops C s T L i K a) : TakesT P md ops C s T L oi i a ∧ ∀ v, (L i).fits v → K (a.put oi.dst v) := by
  unfold lOpT at h
  simp only [hi] at h
  by_cases hw : Region.wanted oi (yielded ops a.tmps) = true
  · simp only [hw, if_true] at h
    exact ⟨.inl ⟨hw, h.1⟩, h.2⟩
  · simp only [hw] at h
    refine ⟨.inr ⟨by simpa using hw, h.1⟩, fun v hv => ?_⟩
    rw [h.1] at hv
    simp only [LR.fits] at hv
    subst hv
    exact h.2

theorem TakesT_put (hA : apartB ops L = true) {i k : Nat} {oi o : Oper} {a : Act} {v : Value} (hi : ops[i]? = some oi) (hs : ∀ cs b, o.op ≠ .select cs b)
    (hl : ∀ d, oi.dst = some d → d ∉ o.looksAt ops) (hnot : ∀ e ∈ o.after, Region.binds md e = true → e.on ≠ i) : TakesT P md ops C s T L o k (a.put oi.dst v) ↔ TakesT P md ops C s T L o k a := by
  unfold TakesT
  rw [wanted_put o a oi.dst v hl]
  have hx : execOp (a.put oi.dst v).eval o = execOp a.eval o := execOp_put o hs a oi.dst v hl
  have hz := size_put a oi.dst v
  constructor
  · rintro (⟨hw, h⟩ | h)
    · exact .inl ⟨hw, fun b w hb hC hd => stepC_congr hz hx (h b w hb hC ((depRel_put hA hi hnot).2 hd))⟩
    · exact .inr h
  · rintro (⟨hw, h⟩ | h)
    · exact .inl ⟨hw, fun b w hb hC hd => stepC_congr hz.symm hx.symm (h b w hb hC ((depRel_put hA hi hnot).1 hd))⟩
    · exact .inr h

theorem wpAnyT_first {n i : Nat} {oi : Oper} {Lq : Array Bool → Act → Prop} (hA : apartB ops L = true) (hi : ops[i]? = some oi) (hsel : ∀ (j : Nat) (o : Oper) cs b, ops[j]? = some o → o.op ≠ .select cs b)
    (hT : ∀ listed, HeadInv md ops n listed → ∀ i, i < n → listed.getD i true = false → ∀ j ∈ Region.ready md ops listed, j < n) (hin : i < n)
    (hdone : ∀ listed a, Lq listed a → ∀ j ∈ Region.ready md ops listed, n ≤ j) :
    ∀ (f : Nat) (listed : Array Bool) (a : Act), HeadInv md ops n listed →
      (∀ j oj, ops[j]? = some oj → j ≠ i → listed.getD j true = false → (∀ e ∈ oj.after, Region.binds md e = true → e.on ≠ i) → oi.apart ops oj = true) →
      i ∈ Region.ready md ops listed → TakesT P md ops C s T L oi i a →
      (∀ v, (L i).fits v → wpAnyT P md ops C s T L n Lq f (listed.setIfInBounds i true) (a.put oi.dst v)) → wpAnyT P md ops C s T L n Lq (f + 1) listed a := by
  intro f
  induction f with
  | zero =>
    intro listed a inv _ hr hy H
    have hun := (mem_ready.1 hr).1
    refine ⟨fun h => (by rw [h] at hr; cases hr), fun j hj => ?_⟩
    have hjn : j < n := hT listed inv i hin hun j hj
    refine ⟨hjn, ?_⟩
    by_cases hji : j = i
    · subst hji; exact lOpT_mk hi hy H
    · obtain ⟨v0, hv0⟩ := (L i).fits_some
      have := hdone _ _ (H v0 hv0) j (ready_mono hj hji)
      omega
  | succ f ih =>
    intro listed a inv hfree hr hy H
    have hun := (mem_ready.1 hr).1
    refine ⟨fun h => (by rw [h] at hr; cases hr), fun j hj => ?_⟩
    have hjn : j < n := hT listed inv i hin hun j hj
    refine ⟨hjn, ?_⟩
    by_cases hji : j = i
    · subst hji; exact lOpT_mk hi hy H
    · obtain ⟨hjun, oj, hoj, hall⟩ := mem_ready.1 hj
      obtain ⟨_, oi', hoi', halli⟩ := mem_ready.1 hr
      have hoe : oi' = oi := Option.some.inj (hoi'.symm.trans hi)
      subst hoe
      have hnot : ∀ e ∈ oj.after, Region.binds md e = true → e.on ≠ i := fun e he hb heq => by
        have h1 := hall e he hb
        rw [heq, getD_both hun] at h1
        cases h1
      have hnoti : ∀ e ∈ oi'.after, Region.binds md e = true → e.on ≠ j := fun e he hb heq => by
        have h1 := halli e he hb
        rw [heq, getD_both hjun] at h1
        cases h1
      obtain ⟨a1, a2, a3⟩ := Oper.apart_spec (hfree j oj hoj hji hjun hnot)
      have h1 : ∀ v, (L i).fits v → TakesT P md ops C s T L oj j (a.put oi'.dst v) ∧ ∀ u, (L j).fits u → wpAnyT P md ops C s T L n Lq f ((listed.setIfInBounds i true).setIfInBounds j true) ((a.put oi'.dst v).put oj.dst u) :=
        fun v hv => lOpT_out hoj ((H v hv).2 j (ready_mono hj hji)).2
      obtain ⟨v0, hv0⟩ := (L i).fits_some
      have hfree' : ∀ k ok, ops[k]? = some ok → k ≠ i → (listed.setIfInBounds j true).getD k true = false →
          (∀ e ∈ ok.after, Region.binds md e = true → e.on ≠ i) → oi'.apart ops ok = true := fun k ok hk hki hun hno => by
        refine hfree k ok hk hki ?_ hno
        by_cases hjk : j = k
        · subst hjk; exact hjun
        · rw [getD_set_ne true hjk] at hun; exact hun
      refine lOpT_mk hoj ((TakesT_put hA hi (fun cs b => hsel j oj cs b hoj) a1 hnot).1 (h1 v0 hv0).1) fun u hu => ?_
      refine ih (listed.setIfInBounds j true) (a.put oj.dst u) (inv.set hj hjn) hfree' (ready_mono hr (Ne.symm hji)) ((TakesT_put hA hoj (fun cs b => hsel i oi' cs b hi) a3 hnoti).2 hy) fun v hv => ?_
      have h2 := (h1 v hv).2 u hu
      rw [Array.setIfInBounds_comm _ _ (Ne.symm hji), Act.put_comm a v u a2] at h2
      exact h2

/-- The walk in the order of the text. -/
def wpLooseT (P : Program) (md : Region.Mode) (ops : Array Oper) (C : Bool → World → Prop) (s : Nat) (T : Nat → World → World → Prop) (L : Nat → LR) (fin : Act → Prop) : List Oper → Nat → Act → Prop
  | [], _, a => fin a
  | o :: rest, k, a => TakesT P md ops C s T L o k a ∧ ∀ v, (L k).fits v → wpLooseT P md ops C s T L fin rest (k + 1) (a.put o.dst v)

theorem wpAnyT_lex {n g : Nat} {fin : Act → Prop} (hA : apartB ops L = true) (hsel : Region.noSelect ops = true)
    (hT : ∀ listed, HeadInv md ops n listed → ∀ i, i < n → listed.getD i true = false → ∀ j ∈ Region.ready md ops listed, j < n) :
    ∀ (l : List Oper) (k : Nat) (listed : Array Bool) (a : Act), (∀ j, j < l.length → l[j]? = ops[k + j]?) → k + l.length = n → HeadInv md ops n listed → (∀ j, j < k → listed.getD j false = true) →
    Region.lexHead md ops g l.length k listed = true → wpLooseT P md ops C s T L fin l k a →
    wpAnyT P md ops C s T L n (fun listed' a' => Region.seqB md ops g n listed' = true ∧ (∀ j, j < n → listed'.getD j false = true) ∧ fin a') l.length listed a
  | [], k, listed, a, _, hk, _, hd, hB, h => by
    have : k = n := by simpa using hk
    subst this
    exact ⟨by simpa [Region.lexHead] using hB, hd, h⟩
  | o :: l, k, listed, a, hl, hk, inv, hd, hB, h => by
    have h0 : ops[k]? = some o := by simpa using (hl 0 (by simp)).symm
    simp only [List.length_cons, Region.lexHead, Bool.and_eq_true] at hB
    obtain ⟨⟨hr, hf⟩, hB'⟩ := hB
    have hkn : k < n := by simp only [List.length_cons] at hk; omega
    have hr' : k ∈ Region.ready md ops listed := by simpa using hr
    have hks : k < listed.size := by rw [inv.size]; exact (Array.getElem?_eq_some_iff.1 h0).1
    refine wpAnyT_first hA h0 (Region.noSelect_spec hsel) hT hkn (fun listed' a' hL => seqB_ready hL.1) l.length listed a inv (Region.free_spec h0 hf) hr' h.1 fun v hv => ?_
    refine wpAnyT_lex hA hsel hT l (k + 1) _ _ (fun j hj => by have := hl (j + 1) (by simp; omega); simpa [Nat.add_assoc, Nat.add_comm 1 j] using this) (by simp only [List.length_cons] at hk; omega) (inv.set hr' hkn) (fun j hj => ?_) hB' (h.2 v hv)
    by_cases hjk : k = j
    · subst hjk; simp [hks]
    · rw [getD_set_ne false hjk]; exact hd j (by omega)

/-- Every order of all operations. -/
theorem wp_region_looset {id : Nat} {Q : Exit → Act → World → Prop} {a : Act} {w : World} {l : List Oper} (s : Nat) (Ls : List LR) (S : Bool → World → Prop) (T : Nat → World → World → Prop) (hm : P.follows .mixedOrders = true) (hB : Region.lexB .any l.toArray = true)
    (hS : S false w.drew) (hsn : s < l.length) (hns : Ls.getD s (.inl undef) ≠ .inl undef) (hA : apartB l.toArray (fun k => Ls.getD k (.inl undef)) = true) (hlast : lastsAllT T 0 Ls)
    (h : wpLooseT P .any l.toArray S s T (fun k => Ls.getD k (.inl undef))
      (fun a' => ∀ w', S true w' → (∀ k ok, l[k]? = some ok → (Ls.getD k (.inl undef)).slot ok a' w') → Q .normal a' w') l 0 a) : (Code.region id l.toArray true).wp P Q a w := by
  simp only [Region.lexB, Bool.and_eq_true] at hB
  obtain ⟨hsel, hlex⟩ := hB
  have inv0 : HeadInv .any l.toArray l.length (Array.replicate l.toArray.size false) :=
    ⟨by simp, fun j oj _ hl => (by rw [getD_replicate_false] at hl; cases hl), fun t _ ht => getD_in (by simpa using ht) (getD_replicate_false _ _)⟩
  have hT : ∀ listed, HeadInv .any l.toArray l.length listed → ∀ i, i < l.length → listed.getD i true = false → ∀ j ∈ Region.ready .any l.toArray listed, j < l.length := fun listed inv i hin hun j hj => by
    obtain ⟨_, o, ho, _⟩ := mem_ready.1 hj
    simpa using (Array.getElem?_eq_some_iff.1 ho).1
  have hlast' : ∀ k, (Ls.getD k (.inl undef)).lastsT T k := fun k => by
    rw [List.getD_eq_getElem?_getD]
    cases hk : Ls[k]? with
    | none => trivial
    | some r =>
      have := lastsAllT_spec _ _ hlast k r hk
      rw [Nat.zero_add] at this
      exact this
  have hlh : ∀ (f k : Nat) (listed : Array Bool), Region.lexFrom .any l.toArray f k listed = true → Region.lexHead .any l.toArray 0 f k listed = true := by
    intro f
    induction f with
    | zero => intro k listed h; simpa [Region.lexFrom, Region.lexHead, Region.seqB] using h
    | succ f ih =>
      intro k listed h
      simp only [Region.lexFrom, Region.lexHead, Bool.and_eq_true] at h ⊢
      exact ⟨h.1, ih _ _ h.2⟩
  have H := wpAnyT_lex (md := .any) (g := 0) (n := l.length) hA hsel hT l 0 _ a (fun j _ => by simp) (by simp) inv0 (fun j hj => by omega) (hlh _ _ _ (by simpa using hlex)) h
  refine wp_region_any hm ?_
  have := wpAny_of_T (Q' := Q) (s := s) (g := 0) hA hlast' hns (fun listed a' w' hL hC hall =>
    ⟨by simpa [Region.seqB] using hL.1, hL.2.2 w' (by rw [hL.2.1 s hsn] at hC; exact hC) fun k ok hk => hall k ok (by simpa using hk) (hL.2.1 k (by rcases Nat.lt_or_ge k l.length with h | h; exact h; simp [List.getElem?_eq_none h] at hk))⟩) _ _ _ w.drew (by rw [getD_replicate_false]; exact hS) (fun k ok _ hl => by rw [getD_replicate_false] at hl; cases hl) H
  simpa using this

/-- Every order of the first n operations, then the others one by one. -/
theorem wp_region_looset_tail {id : Nat} {Q : Exit → Act → World → Prop} {a : Act} {w : World} {l : List Oper} (n : Nat) (s : Nat) (Ls : List LR) (S : Bool → World → Prop) (T : Nat → World → World → Prop) (hm : P.follows .mixedOrders = true) (hB : Region.lexTailB .any l.toArray n = true)
    (hS : S false w.drew) (hsn : s < n) (hns : Ls.getD s (.inl undef) ≠ .inl undef) (hA : apartB l.toArray (fun k => Ls.getD k (.inl undef)) = true) (hlast : lastsAllT T 0 Ls)
    (h : wpLooseT P .any l.toArray S s T (fun k => Ls.getD k (.inl undef))
      (fun a' => ∀ w', S true w' → (∀ k ok, l[k]? = some ok → k < n → (Ls.getD k (.inl undef)).slot ok a' w') → wpList P l.toArray Q (l.drop n) a' w') (l.take n) 0 a) : (Code.region id l.toArray true).wp P Q a w := by
  simp only [Region.lexTailB, Bool.and_eq_true, decide_eq_true_eq] at hB
  obtain ⟨⟨⟨⟨hsel, hn⟩, hs⟩, hc⟩, hlex⟩ := hB
  have hn' : n < l.length := by simpa using hn
  have htl : (l.take n).length = n := by simp; omega
  have hdl : (l.drop n).length = l.toArray.size - n := by simp
  have inv0 : HeadInv .any l.toArray n (Array.replicate l.toArray.size false) :=
    ⟨by simp, fun j oj _ hl => (by rw [getD_replicate_false] at hl; cases hl), fun t _ ht => getD_in (by simpa using ht) (getD_replicate_false _ _)⟩
  have hT : ∀ listed, HeadInv .any l.toArray n listed → ∀ i, i < n → listed.getD i true = false → ∀ j ∈ Region.ready .any l.toArray listed, j < n := fun listed inv i hin hun j hj => by
    rcases Nat.lt_or_ge j n with h | h
    · exact h
    · exact absurd hj (tail_waits hs hc hn inv _ i rfl hin hun j h)
  have hlast' : ∀ k, (Ls.getD k (.inl undef)).lastsT T k := fun k => by
    rw [List.getD_eq_getElem?_getD]
    cases hk : Ls[k]? with
    | none => trivial
    | some r =>
      have := lastsAllT_spec _ _ hlast k r hk
      rw [Nat.zero_add] at this
      exact this
  have H := wpAnyT_lex (md := .any) (g := l.toArray.size - n) hA hsel hT (l.take n) 0 _ a (fun j hj => by
    have hj' : j < n := by rw [htl] at hj; exact hj
    simp [hj']) (by simpa using htl) inv0 (fun j hj => by omega) (by rw [htl]; exact hlex) h
  refine wp_region_any hm ?_
  have := wpAny_of_T (Q' := Q) (s := s) (g := l.toArray.size - n) hA hlast' hns (fun listed a' w' hL hC hall => by
    have := wpAny_of_seq (md := .any) (Q' := Q) (l.drop n) n listed a' w' (fun j => by simp [List.getElem?_drop]) (by rw [hdl]; exact hL.1) (hL.2.2 w' (by rw [hL.2.1 s hsn] at hC; exact hC) fun k ok hk hkn => hall k ok (by simpa using hk) (hL.2.1 k hkn))
    rwa [hdl] at this) _ _ _ w.drew (by rw [getD_replicate_false]; exact hS) (fun k ok _ hl => by rw [getD_replicate_false] at hl; cases hl) H
  rw [htl, show n + (l.toArray.size - n) = l.toArray.size by omega] at this
  exact this

/-- One operation by the plain walk: what it yields is this. -/
theorem wpLooseT_val {fin : Act → Prop} {o : Oper} {rest : List Oper} {k : Nat} {a a' : Act} {c : Value} (hL : L k = .inl c) (hw : Region.wanted o (yielded ops a.tmps) = true) (hks : k ≠ s)
    (hs : ∀ b w, C b w → depRel md ops L o a w → ∀ Q' : Exit → Act → World → Prop, (∀ w', C b w' ∧ T k w w' → Q' .normal a' w') → wpList P #[] Q' [bare o] a w)
    (ha : a.put o.dst c = a') (hn : wpLooseT P md ops C s T L fin rest (k + 1) a') : wpLooseT P md ops C s T L fin (o :: rest) k a := by
  refine ⟨.inl ⟨hw, fun b w _ hC hd => ?_⟩, fun v hv => ?_⟩
  · rw [if_neg hks]
    have h1 := hs b w hC hd (fun e a'' w' => e = .normal ∧ a'' = a.put o.dst c ∧ C b w' ∧ T k w w') (fun w' hE => ⟨rfl, ha.symm, hE.1, hE.2⟩)
    unfold wpList at h1
    have hb : Region.wanted (bare o) (yielded #[] a.tmps) = true := rfl
    simp only [hb, if_true, bare_wp] at h1
    rcases h1 with h1 | ⟨_, _, _, h1, _⟩
    · unfold stepC Oper.wp at *
      generalize (execOp a.eval o).run P w = r at *
      unfold trT
      rw [hL]
      cases r with
      | ok m w' =>
        cases m <;> simp only [Oper.upon] at h1 ⊢
        case enter f args =>
          refine Calls.mono h1 fun e w'' he => ?_
          cases e with
          | returned u => obtain ⟨_, h2, h3, h4⟩ := he; exact ⟨c, h2, h3, h4, rfl⟩
          | panicked _ => obtain ⟨h2, _⟩ := he; cases h2
          | outgrown => obtain ⟨_, _, h2, _⟩ := he; cases h2
        case row row args => exact Rows.mono h1 fun u w'' he => by obtain ⟨_, h2, h3, h4⟩ := he; exact ⟨c, h2, h3, h4, rfl⟩
        all_goals (obtain ⟨_, h2, h3, h4⟩ := h1; exact ⟨c, h2, h3, h4, rfl⟩)
      | halt x w' => cases x <;> simp only [Oper.upon] at h1 <;> (obtain ⟨h2, _⟩ := h1; cases h2)
    · cases h1
  · rw [hL] at hv
    simp only [LR.fits] at hv
    subst hv
    rw [ha]
    exact hn

/-- One operation by the plain walk: of what it yields a fact is known. -/
theorem wpLooseT_rel {fin : Act → Prop} {o : Oper} {rest : List Oper} {k : Nat} {a : Act} {R : Value → World → Prop} (hL : L k = .inr R) (hw : Region.wanted o (yielded ops a.tmps) = true) (hks : k ≠ s)
    (hs : ∀ b w, C b w → depRel md ops L o a w → ∀ Q' : Exit → Act → World → Prop, (∀ v w', C b w' ∧ T k w w' ∧ R v w' → Q' .normal (a.put o.dst v) w') → wpList P #[] Q' [bare o] a w)
    (hn : ∀ v, wpLooseT P md ops C s T L fin rest (k + 1) (a.put o.dst v)) : wpLooseT P md ops C s T L fin (o :: rest) k a := by
  refine ⟨.inl ⟨hw, fun b w _ hC hd => ?_⟩, fun v _ => hn v⟩
  rw [if_neg hks]
  have h1 := hs b w hC hd (fun e a'' w' => e = .normal ∧ ∃ v, a'' = a.put o.dst v ∧ C b w' ∧ T k w w' ∧ R v w') (fun v w' hE => ⟨rfl, v, rfl, hE.1, hE.2.1, hE.2.2⟩)
  unfold wpList at h1
  have hb : Region.wanted (bare o) (yielded #[] a.tmps) = true := rfl
  simp only [hb, if_true, bare_wp] at h1
  rcases h1 with h1 | ⟨_, _, _, h1, _⟩
  · unfold stepC Oper.wp at *
    generalize (execOp a.eval o).run P w = r at *
    unfold trT
    rw [hL]
    cases r with
    | ok m w' =>
      cases m <;> simp only [Oper.upon] at h1 ⊢
      case enter f args =>
        refine Calls.mono h1 fun e w'' he => ?_
        cases e with
        | returned u => exact he.2
        | panicked _ => obtain ⟨h2, _⟩ := he; cases h2
        | outgrown => obtain ⟨_, _, h2, _⟩ := he; cases h2
      case row row args => exact Rows.mono h1 fun u w'' he => he.2
      all_goals exact h1.2
    | halt x w' => cases x <;> simp only [Oper.upon] at h1 <;> (obtain ⟨h2, _⟩ := h1; cases h2)
  · cases h1

/-- One operation by the plain walk: the one behind which C has turned. -/
theorem wpLooseT_spec {fin : Act → Prop} {o : Oper} {rest : List Oper} {k : Nat} {a : Act} {R : Value → World → Prop} (hL : L k = .inr R) (hw : Region.wanted o (yielded ops a.tmps) = true) (hks : k = s)
    (hs : ∀ w, C false w → depRel md ops L o a w → ∀ Q' : Exit → Act → World → Prop, (∀ v w', C true w' ∧ T k w w' ∧ R v w' → Q' .normal (a.put o.dst v) w') → wpList P #[] Q' [bare o] a w)
    (hn : ∀ v, wpLooseT P md ops C s T L fin rest (k + 1) (a.put o.dst v)) : wpLooseT P md ops C s T L fin (o :: rest) k a := by
  refine ⟨.inl ⟨hw, fun b w hb hC hd => ?_⟩, fun v _ => hn v⟩
  rw [if_pos hks]
  rw [hb hks] at hC
  have h1 := hs w hC hd (fun e a'' w' => e = .normal ∧ ∃ v, a'' = a.put o.dst v ∧ C true w' ∧ T k w w' ∧ R v w') (fun v w' hE => ⟨rfl, v, rfl, hE.1, hE.2.1, hE.2.2⟩)
  unfold wpList at h1
  have hb : Region.wanted (bare o) (yielded #[] a.tmps) = true := rfl
  simp only [hb, if_true, bare_wp] at h1
  rcases h1 with h1 | ⟨_, _, _, h1, _⟩
  · unfold stepC Oper.wp at *
    generalize (execOp a.eval o).run P w = r at *
    unfold trT
    rw [hL]
    cases r with
    | ok m w' =>
      cases m <;> simp only [Oper.upon] at h1 ⊢
      case enter f args =>
        refine Calls.mono h1 fun e w'' he => ?_
        cases e with
        | returned u => exact he.2
        | panicked _ => obtain ⟨h2, _⟩ := he; cases h2
        | outgrown => obtain ⟨_, _, h2, _⟩ := he; cases h2
      case row row args => exact Rows.mono h1 fun u w'' he => he.2
      all_goals exact h1.2
    | halt x w' => cases x <;> simp only [Oper.upon] at h1 <;> (obtain ⟨h2, _⟩ := h1; cases h2)
  · cases h1

/-- One operation that is passed over. -/
theorem wpLooseT_skip {fin : Act → Prop} {o : Oper} {rest : List Oper} {k : Nat} {a : Act} (hL : L k = .inl undef) (hw : Region.wanted o (yielded ops a.tmps) = false)
    (hn : wpLooseT P md ops C s T L fin rest (k + 1) (a.put o.dst undef)) : wpLooseT P md ops C s T L fin (o :: rest) k a := by
  refine ⟨.inr ⟨hw, hL⟩, fun v hv => ?_⟩
  rw [hL] at hv
  simp only [LR.fits] at hv
  subst hv
  exact hn

theorem wpLooseT_nil {fin : Act → Prop} {k : Nat} {a : Act} (h : fin a) : wpLooseT P md ops C s T L fin [] k a := h

end
end Go.Proofs.YtojaohdmfahpmaaGreatDoor

/- As LooseT, where two operations turn what the others need, and one may panic: the condition C speaks of what has been done. -/
namespace Go.Proofs.YtojaohdmfahpmaaGreatDoor
open Go Go.RowKit
set_option linter.unusedVariables false

/-- A step of an operation: a value behind which C holds, or a panic of which D tells. -/
def stepA (P : Program) (C : World → Prop) (D : List PanicEntry → World → Prop) (o : Oper) (a : Act) (w : World) (R : Value → World → Prop) : Prop :=
  o.wp P a w (fun a' w' => ∃ v, a' = a.put o.dst v ∧ C w' ∧ R v w') (fun e a' w' => a' = a ∧ ∃ ch, e = .panic ch ∧ D ch w')

theorem stepA_congr {P : Program} {C : World → Prop} {D : List PanicEntry → World → Prop} {o : Oper} {a b : Act} {w : World} {R : Value → World → Prop} (hs : a.tmps.size = b.tmps.size) (he : execOp a.eval o = execOp b.eval o) (h : stepA P C D o a w R) : stepA P C D o b w R := by
  unfold stepA Oper.wp at *
  rw [← he]
  generalize (execOp a.eval o).run P w = r at *
  cases r with
  | ok n w' =>
    cases n <;> simp only [Oper.upon] at h ⊢
    case value u => obtain ⟨v, h1, h2⟩ := h; exact ⟨v, put_same hs h1, h2⟩
    case skip => obtain ⟨v, h1, h2⟩ := h; exact ⟨v, put_same hs h1, h2⟩
    case defer d =>
      obtain ⟨v, h1, _⟩ := h
      have := congrArg (fun x : Act => x.defers.length) h1
      simp [defers_put] at this
    case enter f args =>
      refine Calls.mono h fun e w'' he => ?_
      cases e with
      | returned u => obtain ⟨v, h1, h2⟩ := he; exact ⟨v, put_same hs h1, h2⟩
      | panicked c => exact ⟨trivial, he.2⟩
      | outgrown => obtain ⟨_, _, _, ch, h2, _⟩ := he; cases h2
    case row row args => exact Rows.mono h fun u w'' he => by obtain ⟨v, h1, h2⟩ := he; exact ⟨v, put_same hs h1, h2⟩
  | halt x w' => cases x <;> simp only [Oper.upon] at h ⊢ <;> first | exact ⟨trivial, h.2⟩ | exact ⟨rfl, h.2⟩ | exact h

section
variable {P : Program} {ops : Array Oper} {md : Region.Mode} {C : Array Bool → World → Prop} {D : List PanicEntry → World → Prop} {T : Nat → World → World → Prop} {L : Nat → LR}

/-- What is asked of an operation in the walk. -/
def lOpA (P : Program) (md : Region.Mode) (ops : Array Oper) (C : Array Bool → World → Prop) (D : List PanicEntry → World → Prop) (T : Nat → World → World → Prop) (L : Nat → LR) (j : Nat) (K : Act → Prop) (a : Act) : Prop :=
  match ops[j]? with
  | none => K a
  | some o =>
    if Region.wanted o (yielded ops a.tmps) then (∀ ls w, ls.getD j true = false → C ls w → depRel md ops L o a w → stepA P (C (ls.setIfInBounds j true)) D o a w (trT T L j w)) ∧ ∀ v, (L j).fits v → K (a.put o.dst v)
    else L j = .inl undef ∧ K (a.put o.dst undef)

def wpAnyA (P : Program) (md : Region.Mode) (ops : Array Oper) (C : Array Bool → World → Prop) (D : List PanicEntry → World → Prop) (T : Nat → World → World → Prop) (L : Nat → LR) (n : Nat) (Lq : Array Bool → Act → Prop) : Nat → Array Bool → Act → Prop
  | 0, listed, a => Lq listed a
  | f + 1, listed, a =>
    Region.ready md ops listed ≠ [] ∧ ∀ i ∈ Region.ready md ops listed, i < n ∧ lOpA P md ops C D T L i (wpAnyA P md ops C D T L n Lq f (listed.setIfInBounds i true)) a

theorem wpAny_of_A {n g : Nat} {Lq : Array Bool → Act → Prop} {Q' : Exit → Act → World → Prop} {F : Act → Prop} (hA : apartB ops L = true) (hlast : ∀ k, (L k).lastsT T k)
    (hF : ∀ (i : Nat) (oi : Oper) (v : Value) (a : Act), ops[i]? = some oi → F a → F (a.put oi.dst v)) (hQD : ∀ (a : Act) (ch : List PanicEntry) (w : World), F a → D ch w → Q' (.panic ch) a w)
    (hsk : ∀ i ls w, L i = .inl undef → C ls w → C (ls.setIfInBounds i true) w)
    (hL : ∀ listed a w, Lq listed a → F a → C listed w → allRel ops L listed a w → wpAny P md ops Q' g listed a w) :
    ∀ (f : Nat) (listed : Array Bool) (a : Act) (w : World), F a → C listed w → allRel ops L listed a w → wpAnyA P md ops C D T L n Lq f listed a → wpAny P md ops Q' (f + g) listed a w
  | 0, listed, a, w, hFa, hw, hall, h => by rw [Nat.zero_add]; exact hL _ _ _ h hFa hw hall
  | f + 1, listed, a, w, hFa, hw, hall, h => by
    rw [show f + 1 + g = (f + g) + 1 by omega]
    refine ⟨fun h0 => absurd h0 h.1, fun i hi => ?_⟩
    obtain ⟨hun, oi, hoi, hdeps⟩ := mem_ready.1 hi
    have h1 := (h.2 i hi).2
    unfold lOpA at h1
    unfold wpOp
    simp only [hoi] at h1 ⊢
    split
    · rename_i hwant
      simp only [hwant, if_true] at h1
      obtain ⟨hst, hK⟩ := h1
      have hdep : depRel md ops L oi a w := fun e he hb ok hok => hall _ _ hok (hdeps e he hb)
      have hs := hst _ w hun hw hdep
      refine .inl ?_
      unfold stepA at hs
      have step : ∀ a' w', (∃ v, a' = a.put oi.dst v ∧ C (listed.setIfInBounds i true) w' ∧ trT T L i w v w') → wpAny P md ops Q' (f + g) (listed.setIfInBounds i true) a' w' := by
        rintro a' w' ⟨v, rfl, hE, hTT, hv⟩
        exact wpAny_of_A hA hlast hF hQD hsk hL f _ _ _ (hF i oi v a hoi hFa) hE (allRelT_put hA hlast hoi hall hTT hv) (hK v (LR.fits_of hv))
      unfold Oper.wp at hs ⊢
      generalize (execOp a.eval oi).run P w = r at *
      cases r with
      | ok m w' =>
        cases m <;> simp only [Oper.upon] at hs ⊢
        case enter f args =>
          refine Calls.mono hs fun e w'' he => ?_
          cases e with
          | returned u => exact step _ _ he
          | panicked c => obtain ⟨_, ch, e, hd⟩ := he; cases e; exact hQD _ _ _ hFa hd
          | outgrown => obtain ⟨_, _, _, ch, hh, _⟩ := he; cases hh
        case row row args => exact Rows.mono hs fun u w'' he => step _ _ he
        all_goals exact step _ _ hs
      | halt x w' => cases x <;> simp only [Oper.upon] at hs ⊢ <;> (obtain ⟨_, ch, e, hd⟩ := hs; cases e; exact hQD _ _ _ hFa hd)
    · rename_i hwant
      simp only [hwant] at h1
      obtain ⟨hv, hK⟩ := h1
      exact wpAny_of_A hA hlast hF hQD hsk hL f _ _ _ (hF i oi _ a hoi hFa) (hsk i _ _ hv hw) (allRelT_skip hA hoi hall (by rw [hv]; rfl)) hK

def TakesA (P : Program) (md : Region.Mode) (ops : Array Oper) (C : Array Bool → World → Prop) (D : List PanicEntry → World → Prop) (T : Nat → World → World → Prop) (L : Nat → LR) (o : Oper) (k : Nat) (a : Act) : Prop :=
  (Region.wanted o (yielded ops a.tmps) = true ∧ ∀ ls w, ls.getD k true = false → C ls w → depRel md ops L o a w → stepA P (C (ls.setIfInBounds k true)) D o a w (trT T L k w)) ∨
  (Region.wanted o (yielded ops a.tmps) = false ∧ L k = .inl undef)

theorem lOpA_mk {i : Nat} {oi : Oper} {K : Act → Prop} {a : Act} (hi : ops[i]? = some oi) (ht : TakesA P md ops C D T L oi i a) (hK : ∀ v, (L i).fits v → K (a.put oi.dst v)) : lOpA P md ops C D T L i K a := by
  unfold lOpA
  simp only [hi]
  rcases ht with ⟨hw, hs⟩ | ⟨hw, hv⟩
  · simp only [hw, if_true]; exact ⟨hs, hK⟩
  · simp only [hw, Bool.false_eq_true, if_false]; exact ⟨hv, hK _ (by rw [hv]; rfl)⟩

theorem lOpA_out {i : Nat} {oi : Oper} {K : Act → Prop} {a : Act} (hi : ops[i]? = some oi) (h : lOpA P md ops C D T L i K a) : TakesA P md ops C D T L oi i a ∧ ∀ v, (L i).fits v → K (a.put oi.dst v) := by
  unfold lOpA at h
  simp only [hi] at h
  by_cases hw : Region.wanted oi (yielded ops a.tmps) = true
  · simp only [hw, if_true] at h
    exact ⟨.inl ⟨hw, h.1⟩, h.2⟩
  · simp only [hw] at h
    refine ⟨.inr ⟨by simpa using hw, h.1⟩, fun v hv => ?_⟩
    rw [h.1] at hv
    simp only [LR.fits] at hv
    subst hv
    exact h.2

theorem TakesA_put (hA : apartB ops L = true) {i k : Nat} {oi o : Oper} {a : Act} {v : Value} (hi : ops[i]? = some oi) (hs : ∀ cs b, o.op ≠ .select cs b)
    (hl : ∀ d, oi.dst = some d → d ∉ o.looksAt ops) (hnot : ∀ e ∈ o.after, Region.binds md e = true → e.on ≠ i) : TakesA P md ops C D T L o k (a.put oi.dst v) ↔ TakesA P md ops C D T L o k a := by
  unfold TakesA
  rw [wanted_put o a oi.dst v hl]
  have hx : execOp (a.put oi.dst v).eval o = execOp a.eval o := execOp_put o hs a oi.dst v hl
  have hz := size_put a oi.dst v
  constructor
  · rintro (⟨hw, h⟩ | h)
    · exact .inl ⟨hw, fun b w hb hC hd => stepA_congr hz hx (h b w hb hC ((depRel_put hA hi hnot).2 hd))⟩
    · exact .inr h
  · rintro (⟨hw, h⟩ | h)
    · exact .inl ⟨hw, fun b w hb hC hd => stepA_congr hz.symm hx.symm (h b w hb hC ((depRel_put hA hi hnot).1 hd))⟩
    · exact .inr h

theorem wpAnyA_first {n i : Nat} {oi : Oper} {Lq : Array Bool → Act → Prop} (hA : apartB ops L = true) (hi : ops[i]? = some oi) (hsel : ∀ (j : Nat) (o : Oper) cs b, ops[j]? = some o → o.op ≠ .select cs b)
    (hT : ∀ listed, HeadInv md ops n listed → ∀ i, i < n → listed.getD i true = false → ∀ j ∈ Region.ready md ops listed, j < n) (hin : i < n)
    (hdone : ∀ listed a, Lq listed a → ∀ j ∈ Region.ready md ops listed, n ≤ j) :
    ∀ (f : Nat) (listed : Array Bool) (a : Act), HeadInv md ops n listed →
      (∀ j oj, ops[j]? = some oj → j ≠ i → listed.getD j true = false → (∀ e ∈ oj.after, Region.binds md e = true → e.on ≠ i) → oi.apart ops oj = true) →
      i ∈ Region.ready md ops listed → TakesA P md ops C D T L oi i a →
      (∀ v, (L i).fits v → wpAnyA P md ops C D T L n Lq f (listed.setIfInBounds i true) (a.put oi.dst v)) → wpAnyA P md ops C D T L n Lq (f + 1) listed a := by
  intro f
  induction f with
  | zero =>
    intro listed a inv _ hr hy H
    have hun := (mem_ready.1 hr).1
    refine ⟨fun h => (by rw [h] at hr; cases hr), fun j hj => ?_⟩
    have hjn : j < n := hT listed inv i hin hun j hj
    refine ⟨hjn, ?_⟩
    by_cases hji : j = i
    · subst hji; exact lOpA_mk hi hy H
    · obtain ⟨v0, hv0⟩ := (L i).fits_some
      have := hdone _ _ (H v0 hv0) j (ready_mono hj hji)
      omega
  | succ f ih =>
    intro listed a inv hfree hr hy H
    have hun := (mem_ready.1 hr).1
    refine ⟨fun h => (by rw [h] at hr; cases hr), fun j hj => ?_⟩
    have hjn : j < n := hT listed inv i hin hun j hj
    refine ⟨hjn, ?_⟩
    by_cases hji : j = i
    · subst hji; exact lOpA_mk hi hy H
    · obtain ⟨hjun, oj, hoj, hall⟩ := mem_ready.1 hj
      obtain ⟨_, oi', hoi', halli⟩ := mem_ready.1 hr
      have hoe : oi' = oi := Option.some.inj (hoi'.symm.trans hi)
      subst hoe
      have hnot : ∀ e ∈ oj.after, Region.binds md e = true → e.on ≠ i := fun e he hb heq => by
        have h1 := hall e he hb
        rw [heq, getD_both hun] at h1
        cases h1
      have hnoti : ∀ e ∈ oi'.after, Region.binds md e = true → e.on ≠ j := fun e he hb heq => by
        have h1 := halli e he hb
        rw [heq, getD_both hjun] at h1
        cases h1
      obtain ⟨a1, a2, a3⟩ := Oper.apart_spec (hfree j oj hoj hji hjun hnot)
      have h1 : ∀ v, (L i).fits v → TakesA P md ops C D T L oj j (a.put oi'.dst v) ∧ ∀ u, (L j).fits u → wpAnyA P md ops C D T L n Lq f ((listed.setIfInBounds i true).setIfInBounds j true) ((a.put oi'.dst v).put oj.dst u) :=
        fun v hv => lOpA_out hoj ((H v hv).2 j (ready_mono hj hji)).2
      obtain ⟨v0, hv0⟩ := (L i).fits_some
      have hfree' : ∀ k ok, ops[k]? = some ok → k ≠ i → (listed.setIfInBounds j true).getD k true = false →
          (∀ e ∈ ok.after, Region.binds md e = true → e.on ≠ i) → oi'.apart ops ok = true := fun k ok hk hki hun hno => by
        refine hfree k ok hk hki ?_ hno
        by_cases hjk : j = k
        · subst hjk; exact hjun
        · rw [getD_set_ne true hjk] at hun; exact hun
      refine lOpA_mk hoj ((TakesA_put hA hi (fun cs b => hsel j oj cs b hoj) a1 hnot).1 (h1 v0 hv0).1) fun u hu => ?_
      refine ih (listed.setIfInBounds j true) (a.put oj.dst u) (inv.set hj hjn) hfree' (ready_mono hr (Ne.symm hji)) ((TakesA_put hA hoj (fun cs b => hsel i oi' cs b hi) a3 hnoti).2 hy) fun v hv => ?_
      have h2 := (h1 v hv).2 u hu
      rw [Array.setIfInBounds_comm _ _ (Ne.symm hji), Act.put_comm a v u a2] at h2
      exact h2

/-- The walk in the order of the text. -/
def wpLooseA (P : Program) (md : Region.Mode) (ops : Array Oper) (C : Array Bool → World → Prop) (D : List PanicEntry → World → Prop) (T : Nat → World → World → Prop) (L : Nat → LR) (fin : Act → Prop) : List Oper → Nat → Act → Prop
  | [], _, a => fin a
  | o :: rest, k, a => TakesA P md ops C D T L o k a ∧ ∀ v, (L k).fits v → wpLooseA P md ops C D T L fin rest (k + 1) (a.put o.dst v)

theorem wpAnyA_lex {n g : Nat} {fin : Act → Prop} (hA : apartB ops L = true) (hsel : Region.noSelect ops = true)
    (hT : ∀ listed, HeadInv md ops n listed → ∀ i, i < n → listed.getD i true = false → ∀ j ∈ Region.ready md ops listed, j < n) :
    ∀ (l : List Oper) (k : Nat) (listed : Array Bool) (a : Act), (∀ j, j < l.length → l[j]? = ops[k + j]?) → k + l.length = n → HeadInv md ops n listed → (∀ j, j < k → listed.getD j false = true) →
    Region.lexHead md ops g l.length k listed = true → wpLooseA P md ops C D T L fin l k a →
    wpAnyA P md ops C D T L n (fun listed' a' => Region.seqB md ops g n listed' = true ∧ (∀ j, j < n → listed'.getD j false = true) ∧ fin a') l.length listed a
  | [], k, listed, a, _, hk, _, hd, hB, h => by
    have : k = n := by simpa using hk
    subst this
    exact ⟨by simpa [Region.lexHead] using hB, hd, h⟩
  | o :: l, k, listed, a, hl, hk, inv, hd, hB, h => by
    have h0 : ops[k]? = some o := by simpa using (hl 0 (by simp)).symm
    simp only [List.length_cons, Region.lexHead, Bool.and_eq_true] at hB
    obtain ⟨⟨hr, hf⟩, hB'⟩ := hB
    have hkn : k < n := by simp only [List.length_cons] at hk; omega
    have hr' : k ∈ Region.ready md ops listed := by simpa using hr
    have hks : k < listed.size := by rw [inv.size]; exact (Array.getElem?_eq_some_iff.1 h0).1
    refine wpAnyA_first hA h0 (Region.noSelect_spec hsel) hT hkn (fun listed' a' hL => seqB_ready hL.1) l.length listed a inv (Region.free_spec h0 hf) hr' h.1 fun v hv => ?_
    refine wpAnyA_lex hA hsel hT l (k + 1) _ _ (fun j hj => by have := hl (j + 1) (by simp; omega); simpa [Nat.add_assoc, Nat.add_comm 1 j] using this) (by simp only [List.length_cons] at hk; omega) (inv.set hr' hkn) (fun j hj => ?_) hB' (h.2 v hv)
    by_cases hjk : k = j
    · subst hjk; simp [hks]
    · rw [getD_set_ne false hjk]; exact hd j (by omega)

/-- Every order of the first n operations, then the others one by one. -/
theorem wp_region_loosea_tail {id : Nat} {Q : Exit → Act → World → Prop} {a : Act} {w : World} {l : List Oper} (n : Nat) (Ls : List LR) (S : Array Bool → World → Prop) (D : List PanicEntry → World → Prop) (F : Act → Prop) (T : Nat → World → World → Prop) (hm : P.follows .mixedOrders = true) (hB : Region.lexTailB .any l.toArray n = true)
    (hS : S (Array.replicate l.toArray.size false) w.drew) (hFa : F a) (hF : ∀ (i : Nat) (oi : Oper) v a, l.toArray[i]? = some oi → F a → F (a.put oi.dst v)) (hQD : ∀ a ch w, F a → D ch w → Q (.panic ch) a w) (hsk : ∀ i ls w, Ls.getD i (.inl undef) = .inl undef → S ls w → S (ls.setIfInBounds i true) w) (hA : apartB l.toArray (fun k => Ls.getD k (.inl undef)) = true) (hlast : lastsAllT T 0 Ls)
    (h : wpLooseA P .any l.toArray S D T (fun k => Ls.getD k (.inl undef))
      (fun a' => F a' → ∀ ls w', (∀ j, j < n → ls.getD j false = true) → S ls w' → (∀ k ok, l[k]? = some ok → k < n → (Ls.getD k (.inl undef)).slot ok a' w') → wpList P l.toArray Q (l.drop n) a' w') (l.take n) 0 a) : (Code.region id l.toArray true).wp P Q a w := by
  simp only [Region.lexTailB, Bool.and_eq_true, decide_eq_true_eq] at hB
  obtain ⟨⟨⟨⟨hsel, hn⟩, hs⟩, hc⟩, hlex⟩ := hB
  have hn' : n < l.length := by simpa using hn
  have htl : (l.take n).length = n := by simp; omega
  have hdl : (l.drop n).length = l.toArray.size - n := by simp
  have inv0 : HeadInv .any l.toArray n (Array.replicate l.toArray.size false) :=
    ⟨by simp, fun j oj _ hl => (by rw [getD_replicate_false] at hl; cases hl), fun t _ ht => getD_in (by simpa using ht) (getD_replicate_false _ _)⟩
  have hT : ∀ listed, HeadInv .any l.toArray n listed → ∀ i, i < n → listed.getD i true = false → ∀ j ∈ Region.ready .any l.toArray listed, j < n := fun listed inv i hin hun j hj => by
    rcases Nat.lt_or_ge j n with h | h
    · exact h
    · exact absurd hj (tail_waits hs hc hn inv _ i rfl hin hun j h)
  have hlast' : ∀ k, (Ls.getD k (.inl undef)).lastsT T k := fun k => by
    rw [List.getD_eq_getElem?_getD]
    cases hk : Ls[k]? with
    | none => trivial
    | some r =>
      have := lastsAllT_spec _ _ hlast k r hk
      rw [Nat.zero_add] at this
      exact this
  have H := wpAnyA_lex (md := .any) (g := l.toArray.size - n) hA hsel hT (l.take n) 0 _ a (fun j hj => by
    have hj' : j < n := by rw [htl] at hj; exact hj
    simp [hj']) (by simpa using htl) inv0 (fun j hj => by omega) (by rw [htl]; exact hlex) h
  refine wp_region_any hm ?_
  have := wpAny_of_A (Q' := Q) (F := F) (g := l.toArray.size - n) hA hlast' hF hQD hsk (fun listed a' w' hL hFa' hC hall => by
    have := wpAny_of_seq (md := .any) (Q' := Q) (l.drop n) n listed a' w' (fun j => by simp [List.getElem?_drop]) (by rw [hdl]; exact hL.1) (hL.2.2 hFa' listed w' hL.2.1 hC fun k ok hk hkn => hall k ok (by simpa using hk) (hL.2.1 k hkn))
    rwa [hdl] at this) _ _ _ w.drew hFa hS (fun k ok _ hl => by rw [getD_replicate_false] at hl; cases hl) H
  rw [htl, show n + (l.toArray.size - n) = l.toArray.size by omega] at this
  exact this

variable {C2 : Bool → Bool → World → Prop} {s1 s2 : Nat}

theorem setA_ne {ls : Array Bool} {k s : Nat} (h : k ≠ s) : (ls.setIfInBounds k true).getD s false = ls.getD s false := getD_set_ne false h

theorem setA_eq {ls : Array Bool} {k : Nat} (h : ls.getD k true = false) : (ls.setIfInBounds k true).getD k false = true := by
  have hsz : k < ls.size := by
    rcases Nat.lt_or_ge k ls.size with hh | hh
    · exact hh
    · simp [Array.getD, Nat.not_lt.2 hh] at h
  simp [hsz]

/-- One operation by the plain walk. -/
theorem stepA_list {o : Oper} {k : Nat} {a : Act} {w : World} {C' : World → Prop} (R : Value → World → Prop)
    (hs : ∀ Q' : Exit → Act → World → Prop, (∀ v w', C' w' ∧ T k w w' ∧ R v w' → Q' .normal (a.put o.dst v) w') → (∀ ch w', D ch w' → Q' (.panic ch) a w') → wpList P #[] Q' [bare o] a w) :
    stepA P C' D o a w (fun v w' => T k w w' ∧ R v w') := by
  have h1 := hs (fun e a'' w' => (e = .normal ∧ ∃ v, a'' = a.put o.dst v ∧ C' w' ∧ T k w w' ∧ R v w') ∨ (a'' = a ∧ ∃ ch, e = .panic ch ∧ D ch w')) (fun v w' hE => .inl ⟨rfl, v, rfl, hE.1, hE.2.1, hE.2.2⟩) (fun ch w' hd => .inr ⟨rfl, ch, rfl, hd⟩)
  unfold wpList at h1
  have hb : Region.wanted (bare o) (yielded #[] a.tmps) = true := rfl
  simp only [hb, if_true, bare_wp] at h1
  rcases h1 with h1 | ⟨_, _, _, ⟨h1, _⟩ | ⟨_, _, h1, _⟩⟩
  · unfold stepA Oper.wp at *
    generalize (execOp a.eval o).run P w = r at *
    have nrm : ∀ a' w', ((Exit.normal = .normal ∧ ∃ v, a' = a.put o.dst v ∧ C' w' ∧ T k w w' ∧ R v w') ∨ (a' = a ∧ ∃ ch, Exit.normal = .panic ch ∧ D ch w')) → ∃ v, a' = a.put o.dst v ∧ C' w' ∧ T k w w' ∧ R v w' := by
      rintro a' w' (⟨_, h⟩ | ⟨_, ch, h, _⟩)
      · exact h
      · cases h
    cases r with
    | ok m w' =>
      cases m <;> simp only [Oper.upon] at h1 ⊢
      case enter f args =>
        refine Calls.mono h1 fun e w'' he => ?_
        cases e with
        | returned u => exact nrm _ _ he
        | panicked c =>
          rcases he with ⟨h2, _⟩ | ⟨_, ch, h2, h3⟩
          · cases h2
          · exact ⟨trivial, ch, h2, h3⟩
        | outgrown =>
          obtain ⟨_, _, he⟩ := he
          rcases he with ⟨h2, _⟩ | ⟨_, ch, h2, h3⟩
          · cases h2
          · cases h2
      case row row args => exact Rows.mono h1 fun u w'' he => nrm _ _ he
      all_goals exact nrm _ _ h1
    | halt x w' =>
      cases x <;> simp only [Oper.upon] at h1 ⊢
      all_goals
        rcases h1 with ⟨h2, _⟩ | ⟨_, ch, h2, h3⟩
        · cases h2
        · exact ⟨trivial, ch, h2, h3⟩
  all_goals cases h1

/-- The condition of the user: two operations of which it speaks. -/
abbrev CA (C2 : Bool → Bool → World → Prop) (s1 s2 : Nat) : Array Bool → World → Prop := fun ls W => C2 (ls.getD s1 false) (ls.getD s2 false) W

theorem CA_ne {ls : Array Bool} {k : Nat} {w : World} (h1 : k ≠ s1) (h2 : k ≠ s2) (h : C2 (ls.getD s1 false) (ls.getD s2 false) w) : CA C2 s1 s2 (ls.setIfInBounds k true) w := by
  show C2 _ _ _
  rw [setA_ne h1, setA_ne h2]
  exact h

theorem CA_s1 {ls : Array Bool} {k : Nat} {w : World} (hb : ls.getD k true = false) (h1 : k = s1) (h2 : k ≠ s2) (h : C2 true (ls.getD s2 false) w) : CA C2 s1 s2 (ls.setIfInBounds k true) w := by
  show C2 _ _ _
  rw [← h1, setA_eq hb, setA_ne h2]
  exact h

theorem CA_s2 {ls : Array Bool} {k : Nat} {w : World} (hb : ls.getD k true = false) (h1 : k ≠ s1) (h2 : k = s2) (h : C2 (ls.getD s1 false) true w) : CA C2 s1 s2 (ls.setIfInBounds k true) w := by
  show C2 _ _ _
  rw [← h2, setA_eq hb, setA_ne h1]
  exact h

/-- One operation that yields one value. -/
theorem wpLooseA_val {fin : Act → Prop} {o : Oper} {rest : List Oper} {k : Nat} {a a' : Act} {c : Value} (hL : L k = .inl c) (hw : Region.wanted o (yielded ops a.tmps) = true) (h1 : k ≠ s1) (h2 : k ≠ s2)
    (hs : ∀ b1 b2 w, C2 b1 b2 w → depRel md ops L o a w → ∀ Q' : Exit → Act → World → Prop, (∀ w', C2 b1 b2 w' ∧ T k w w' → Q' .normal a' w') → (∀ ch w', D ch w' → Q' (.panic ch) a w') → wpList P #[] Q' [bare o] a w)
    (ha : a.put o.dst c = a') (hn : wpLooseA P md ops (CA C2 s1 s2) D T L fin rest (k + 1) a') : wpLooseA P md ops (CA C2 s1 s2) D T L fin (o :: rest) k a := by
  refine ⟨.inl ⟨hw, fun ls w _ hC hd => ?_⟩, fun v hv => ?_⟩
  · unfold trT
    rw [hL]
    exact stepA_list (fun v _ => v = c) fun Q' hq hp => hs _ _ w hC hd Q' (fun w' h => ha ▸ hq c w' ⟨CA_ne h1 h2 h.1, h.2, rfl⟩) hp
  · rw [hL] at hv
    simp only [LR.fits] at hv
    subst hv
    rw [ha]
    exact hn

/-- One operation of whose value a fact is known. -/
theorem wpLooseA_rel {fin : Act → Prop} {o : Oper} {rest : List Oper} {k : Nat} {a : Act} {R : Value → World → Prop} (hL : L k = .inr R) (hw : Region.wanted o (yielded ops a.tmps) = true) (h1 : k ≠ s1) (h2 : k ≠ s2)
    (hs : ∀ b1 b2 w, C2 b1 b2 w → depRel md ops L o a w → ∀ Q' : Exit → Act → World → Prop, (∀ v w', C2 b1 b2 w' ∧ T k w w' ∧ R v w' → Q' .normal (a.put o.dst v) w') → (∀ ch w', D ch w' → Q' (.panic ch) a w') → wpList P #[] Q' [bare o] a w)
    (hn : ∀ v, wpLooseA P md ops (CA C2 s1 s2) D T L fin rest (k + 1) (a.put o.dst v)) : wpLooseA P md ops (CA C2 s1 s2) D T L fin (o :: rest) k a := by
  refine ⟨.inl ⟨hw, fun ls w _ hC hd => ?_⟩, fun v _ => hn v⟩
  unfold trT
  rw [hL]
  exact stepA_list R fun Q' hq hp => hs _ _ w hC hd Q' (fun v w' h => hq v w' ⟨CA_ne h1 h2 h.1, h.2.1, h.2.2⟩) hp

/-- The first of the two. -/
theorem wpLooseA_s1 {fin : Act → Prop} {o : Oper} {rest : List Oper} {k : Nat} {a : Act} {R : Value → World → Prop} (hL : L k = .inr R) (hw : Region.wanted o (yielded ops a.tmps) = true) (h1 : k = s1) (h2 : k ≠ s2)
    (hs : ∀ b2 w, C2 false b2 w → depRel md ops L o a w → ∀ Q' : Exit → Act → World → Prop, (∀ v w', C2 true b2 w' ∧ T k w w' ∧ R v w' → Q' .normal (a.put o.dst v) w') → (∀ ch w', D ch w' → Q' (.panic ch) a w') → wpList P #[] Q' [bare o] a w)
    (hn : ∀ v, wpLooseA P md ops (CA C2 s1 s2) D T L fin rest (k + 1) (a.put o.dst v)) : wpLooseA P md ops (CA C2 s1 s2) D T L fin (o :: rest) k a := by
  refine ⟨.inl ⟨hw, fun ls w hun hC hd => ?_⟩, fun v _ => hn v⟩
  unfold trT
  rw [hL]
  have hC' : C2 (ls.getD s1 false) (ls.getD s2 false) w := hC
  rw [← h1, getD_both hun] at hC'
  exact stepA_list R fun Q' hq hp => hs _ w hC' hd Q' (fun v w' h => hq v w' ⟨CA_s1 hun h1 h2 h.1, h.2.1, h.2.2⟩) hp

/-- The second of the two. -/
theorem wpLooseA_s2 {fin : Act → Prop} {o : Oper} {rest : List Oper} {k : Nat} {a : Act} {R : Value → World → Prop} (hL : L k = .inr R) (hw : Region.wanted o (yielded ops a.tmps) = true) (h1 : k ≠ s1) (h2 : k = s2)
    (hs : ∀ b1 w, C2 b1 false w → depRel md ops L o a w → ∀ Q' : Exit → Act → World → Prop, (∀ v w', C2 b1 true w' ∧ T k w w' ∧ R v w' → Q' .normal (a.put o.dst v) w') → (∀ ch w', D ch w' → Q' (.panic ch) a w') → wpList P #[] Q' [bare o] a w)
    (hn : ∀ v, wpLooseA P md ops (CA C2 s1 s2) D T L fin rest (k + 1) (a.put o.dst v)) : wpLooseA P md ops (CA C2 s1 s2) D T L fin (o :: rest) k a := by
  refine ⟨.inl ⟨hw, fun ls w hun hC hd => ?_⟩, fun v _ => hn v⟩
  unfold trT
  rw [hL]
  have hC' : C2 (ls.getD s1 false) (ls.getD s2 false) w := hC
  rw [← h2, getD_both hun] at hC'
  exact stepA_list R fun Q' hq hp => hs _ w hC' hd Q' (fun v w' h => hq v w' ⟨CA_s2 hun h1 h2 h.1, h.2.1, h.2.2⟩) hp

/-- One operation that is passed over. -/
theorem wpLooseA_skip {C : Array Bool → World → Prop} {fin : Act → Prop} {o : Oper} {rest : List Oper} {k : Nat} {a : Act} (hL : L k = .inl undef) (hw : Region.wanted o (yielded ops a.tmps) = false)
    (hn : wpLooseA P md ops C D T L fin rest (k + 1) (a.put o.dst undef)) : wpLooseA P md ops C D T L fin (o :: rest) k a := by
  refine ⟨.inr ⟨hw, hL⟩, fun v hv => ?_⟩
  rw [hL] at hv
  simp only [LR.fits] at hv
  subst hv
  exact hn

theorem wpLooseA_nil {C : Array Bool → World → Prop} {fin : Act → Prop} {k : Nat} {a : Act} (h : fin a) : wpLooseA P md ops C D T L fin [] k a := h

end
end Go.Proofs.YtojaohdmfahpmaaGreatDoor

/- Impl's reader of signs: rows of rules, all apart. -/
namespace Go.Proofs.YtojaohdmfahpmaaGreatDoor
open Go.RowKit
set_option linter.unusedVariables false

theorem Tryz.infoRl : (Tryz.prog.info? 53).map (fun i => (i.zero, i.size, i.bytes)) = some (some (.agg #[.slice none 0 0, .slice none 0 0, .int .i64 0, .int .i64 0]), 4, 64) := by kernel_rfl

theorem own_slice {w : World} {B e size n : Nat} {v : Value} {xs : List Value} (h : w.ownsRow B e size v n xs) : ∃ a c, v = .slice a n c := by
  rcases h.2 with ⟨rfl, h0⟩ | ⟨g, cap, cur, rfl, _⟩
  · exact ⟨_, _, by rw [h0]⟩
  · exact ⟨_, _, rfl⟩

theorem RuleX.shape {B : Nat} {w : World} {r : RN} {l : List Value} (h : RuleX B w r l) : ∃ a1 n1 c1 a2 n2 c2, l = [.slice a1 n1 c1, .slice a2 n2 c2, .int .i64 r.act, .int .i64 r.data] := by
  obtain ⟨v1, v2, B2, rfl, h1, h2, _⟩ := h
  obtain ⟨a1, c1, rfl⟩ := own_slice h1
  obtain ⟨a2, c2, rfl⟩ := own_slice h2
  exact ⟨_, _, _, _, _, _, rfl⟩

theorem Kn.row {w w' : World} {k : Nat} {l : List Value} {t : TypeId} {row : Option Nat} (h : Kn w k l t) (hg : w.grownBy w' row) (hr : row ≠ some k) : Kn w' k l t := (hg.block k h.lt (fun e => hr e.symm)).trans h

theorem gb_drew {p : Nat} {w W : World} (h : GB p w W) : GB p w W.drew := ⟨h.os, h.tape, h.output, h.size, h.block⟩

/-- Which of two places. -/
def plc : Bool → Nat → Nat → Nat
  | true, a, _ => a
  | false, _, b => b

/-- The blocks of a rule's two rows. -/
def Blo (l : List Value) (x : Nat) : Prop := (l.getD 0 undef).ownBlock = some x ∨ (l.getD 1 undef).ownBlock = some x

/-- The rows of the rules, all apart, none of them the block o. -/
def RowsX (B Z : Nat) (w : World) (o : Option Nat) (ps : List (RN × List Value)) : Prop :=
  ∃ m : Nat → Nat, (∀ j, m j ≤ m (j + 1)) ∧ B ≤ m 0 ∧ m ps.length ≤ Z ∧ ∀ j q, ps[j]? = some q → RuleX (m j) w q.1 q.2 ∧ ∀ x, Blo q.2 x → m j ≤ x ∧ x < m (j + 1) ∧ o ≠ some x

/-- Rules in a row of the call's own, each with rows of its own, all apart. -/
def RulesX (B : Nat) (w : World) (v : Value) (ps : List (RN × List Value)) : Prop :=
  w.ownsRow B 53 4 v ps.length (ps.flatMap (·.2)) ∧ RowsX B w.heap.size w v.ownBlock ps

theorem mono_le {m : Nat → Nat} (h : ∀ j, m j ≤ m (j + 1)) : ∀ (d i : Nat), m i ≤ m (i + d)
  | 0, _ => Nat.le_refl _
  | d + 1, i => Nat.le_trans (mono_le h d i) (h (i + d))

theorem mono_lt {m : Nat → Nat} (h : ∀ j, m j ≤ m (j + 1)) {i k : Nat} (hik : i ≤ k) : m i ≤ m k := by
  have := mono_le h (k - i) i
  rwa [show i + (k - i) = k by omega] at this

theorem RuleX.kept {B : Nat} {w w' : World} {r : RN} {l : List Value} {row : Option Nat} (h : RuleX B w r l) (hg : w.grownBy w' row) (hr : ∀ x, Blo l x → row ≠ some x) : RuleX B w' r l := by
  obtain ⟨v1, v2, B2, rfl, h1, h2, h3, h4⟩ := h
  refine ⟨v1, v2, B2, rfl, World.ownsRow.kept h1 hg ?_, World.ownsRow.kept h2 hg ?_, h3, h4⟩
  · cases e : v1.ownBlock with
    | none => exact .inl rfl
    | some x => exact .inr (fun e2 => hr x (.inl e) e2.symm)
  · cases e : v2.ownBlock with
    | none => exact .inl rfl
    | some x => exact .inr (fun e2 => hr x (.inr e) e2.symm)

theorem RuleX.mono {B C : Nat} {w : World} {r : RN} {l : List Value} (h : RuleX B w r l) (hC : C ≤ B) : RuleX C w r l := by
  obtain ⟨v1, v2, B2, rfl, h1, h2, h3, h4⟩ := h
  exact ⟨v1, v2, B2, rfl, own_mono h1 hC, h2, by omega, h4⟩

theorem RuleX.blocks {B : Nat} {w : World} {r : RN} {l : List Value} (h : RuleX B w r l) : ∀ x, Blo l x → B ≤ x ∧ x < w.heap.size := by
  obtain ⟨v1, v2, B2, rfl, h1, h2, h3, h4⟩ := h
  intro x hx
  rcases hx with hx | hx
  · exact own_lt9 h1 hx
  · have := own_lt9 h2 hx
    omega

theorem RowsX.kept {B Z : Nat} {w w' : World} {o row : Option Nat} {ps : List (RN × List Value)} (h : RowsX B Z w o ps) (hg : w.grownBy w' row) (hr : ∀ x, row = some x → o ≠ some x → x < B) : RowsX B Z w' o ps := by
  obtain ⟨m, h1, h2, h3, h4⟩ := h
  refine ⟨m, h1, h2, h3, fun j q hq => ?_⟩
  obtain ⟨k1, k2⟩ := h4 j q hq
  refine ⟨k1.kept hg fun x hx e => ?_, k2⟩
  obtain ⟨a1, a2, a3⟩ := k2 x hx
  have := hr x e a3
  have := mono_lt h1 (Nat.zero_le j)
  omega

theorem RowsX.push {B Z Y : Nat} {w : World} {o o' : Option Nat} {ps : List (RN × List Value)} {r : RN} {l : List Value} (h : RowsX B Z w o ps) (hq : RuleX Z w r l) (hb : ∀ x, Blo l x → x < Y) (hZY : Z ≤ Y) (ho : ∀ x, o = some x → x < Z) (ho' : ∀ x, o' = some x → o = some x ∨ Y ≤ x) : RowsX B Y w o' (ps ++ [(r, l)]) := by
  obtain ⟨m, h1, h2, h3, h4⟩ := h
  refine ⟨fun j => if j ≤ ps.length then m j else Y, fun j => ?_, ?_, ?_, fun j q hj => ?_⟩
  · simp only
    split <;> split
    · exact h1 j
    · have := mono_lt h1 (show j ≤ ps.length by assumption); omega
    · omega
    · exact Nat.le_refl _
  · simpa using h2
  · have hl : (ps ++ [(r, l)]).length = ps.length + 1 := by simp
    simp only
    rw [if_neg (by omega)]
    exact Nat.le_refl _
  · have hlt : j < ps.length + 1 := by
      have := (List.getElem?_eq_some_iff.1 hj).1
      simpa using this
    by_cases hjl : j < ps.length
    · rw [List.getElem?_append_left hjl] at hj
      obtain ⟨k1, k2⟩ := h4 j q hj
      simp only [if_pos (show j ≤ ps.length by omega), if_pos (show j + 1 ≤ ps.length by omega)]
      refine ⟨k1, fun x hx => ?_⟩
      obtain ⟨a1, a2, a3⟩ := k2 x hx
      refine ⟨a1, a2, fun e => ?_⟩
      rcases ho' x e with e2 | e2
      · exact a3 e2
      · have := mono_lt h1 (show j + 1 ≤ ps.length by omega); omega
    · have : j = ps.length := by omega
      subst this
      simp at hj
      subst hj
      simp only [if_pos (Nat.le_refl _), if_neg (show ¬ ps.length + 1 ≤ ps.length by omega)]
      refine ⟨hq.mono h3, fun x hx => ?_⟩
      have a := hq.blocks x hx
      have b := hb x hx
      refine ⟨by omega, b, fun e => ?_⟩
      rcases ho' x e with e2 | e2
      · have := ho x e2; omega
      · omega

theorem RowsX.nil {B Z : Nat} {w : World} {o : Option Nat} (h : B ≤ Z) : RowsX B Z w o [] := ⟨fun _ => B, fun _ => Nat.le_refl _, Nat.le_refl _, h, fun j q hq => by simp at hq⟩

theorem RowsX.up {B Z Y : Nat} {w : World} {o : Option Nat} {ps : List (RN × List Value)} (h : RowsX B Z w o ps) (hZ : Z ≤ Y) : RowsX B Y w o ps := by
  obtain ⟨m, h1, h2, h3, h4⟩ := h
  exact ⟨m, h1, h2, Nat.le_trans h3 hZ, h4⟩

theorem RulesX.ext {B : Nat} {w w' : World} {v : Value} {ps : List (RN × List Value)} (h : RulesX B w v ps) (hE : Ext w w') : RulesX B w' v ps :=
  ⟨own_ext h.1 hE, (h.2.kept (row := none) ⟨hE.os, hE.tape, hE.output, hE.size, fun i hi _ => hE.block i hi⟩ fun x hx => by cases hx).up hE.size⟩

theorem RulesX.low {B d : Nat} {w : World} {v : Value} {ps : List (RN × List Value)} (h : RulesX (B + d) w v ps) : RulesX B w v ps := by
  obtain ⟨h1, m, h2, h3, h4, h5⟩ := h
  exact ⟨own_mono h1 (by omega), m, h2, by omega, h4, h5⟩

theorem RulesX.gb {B p : Nat} {w w' : World} {v : Value} {ps : List (RN × List Value)} (h : RulesX B w v ps) (hp : p < B) (hg : GB p w w') : RulesX B w' v ps :=
  ⟨own_gb h.1 hp hg, (h.2.kept hg fun x hx _ => by injection hx with hx; omega).up hg.size⟩

end Go.Proofs.YtojaohdmfahpmaaGreatDoor

namespace Go.Proofs.YtojaohdmfahpmaaGreatDoor
open Go.RowKit
set_option linter.unusedVariables false

/-- Which of two states. -/
def plcS : Bool → Option Nat → Option Nat → Option Nat
  | true, a, _ => a
  | false, _, b => b

theorem gb_grown {p : Nat} {w W W' : World} {row : Option Nat} (h : GB p w W) (hg : W.grownBy W' row) (hr : ∀ x, row = some x → w.heap.size ≤ x) : GB p w W' := gb_row h hg hr

theorem own_row {w w' : World} {B e size n : Nat} {v : Value} {xs : List Value} {row : Option Nat} (h : w.ownsRow B e size v n xs) (hg : w.grownBy w' row) (hr : ∀ x, v.ownBlock = some x → row ≠ some x) : w'.ownsRow B e size v n xs :=
  h.kept hg (by
    cases hv : v.ownBlock with
    | none => exact .inl rfl
    | some x => exact .inr (fun e => hr x hv e.symm))

theorem sNum_mono {G : List Sg} {s : Option Nat} {j : Nat} (h : (sNum G s).2 = some j) : ∃ i, s = some i ∧ i ≤ j := by
  rw [sNum_if] at h
  cases hh : sHas G s
  · rw [hh] at h; simp at h
  · rw [hh] at h
    obtain ⟨i, rfl, hi⟩ := sHas_lt hh
    simp [nx] at h
    exact ⟨i, rfl, by omega⟩

theorem nx_mono {s : Option Nat} {j : Nat} (h : nx s = some j) : ∃ i, s = some i ∧ i ≤ j := by
  cases s with
  | none => simp [nx] at h
  | some i => simp [nx] at h; exact ⟨i, rfl, by omega⟩

theorem sWide_mono {G : List Sg} {s : Option Nat} {j : Nat} (h : (sWide G s).2 = some j) : ∃ i, s = some i ∧ i ≤ j := by
  unfold sWide at h
  split at h
  · obtain ⟨i1, h1, l1⟩ := sNum_mono h
    obtain ⟨i2, h2, l2⟩ := nx_mono h1
    obtain ⟨i3, h3, l3⟩ := sNum_mono h2
    exact ⟨i3, h3, by omega⟩
  · exact sNum_mono h

theorem sMask_mono {G : List Sg} {s : Option Nat} {j : Nat} (h : (sMask G s).2 = some j) : ∃ i, s = some i ∧ i ≤ j := by
  unfold sMask at h
  split at h
  · obtain ⟨i1, h1, l1⟩ := sWide_mono h
    obtain ⟨i2, h2, l2⟩ := nx_mono h1
    exact ⟨i2, h2, by omega⟩
  · exact ⟨j, h, Nat.le_refl _⟩

theorem sWt_mono {G : List Sg} {s : Option Nat} {k : Int} {t : List UInt8} {j : Nat} (h : sWt G s k t = some j) : ∃ i, s = some i ∧ i ≤ j := by
  unfold sWt at h
  split at h
  · exact nx_mono h
  · cases h

theorem sCmp_mono {G : List Sg} {s : Option Nat} {j : Nat} (h : (sCmp G s).2 = some j) : ∃ i, s = some i ∧ i ≤ j := by
  cases s with
  | none => simp [sCmp] at h
  | some i =>
    refine ⟨i, rfl, ?_⟩
    unfold sCmp at h
    simp only at h
    split at h
    · split at h
      · simp at h; omega
      · simp at h; omega
    · simp at h; omega

theorem sCond_mono (G : List Sg) (i j : Nat) (h : (sCond G (some i)).2 = some j) : i ≤ j := by
  unfold sCond at h
  simp only at h
  obtain ⟨i1, h1, l1⟩ := sWide_mono h
  obtain ⟨i2, h2, l2⟩ := sCmp_mono h1
  obtain ⟨i3, h3, l3⟩ := sMask_mono h2
  obtain ⟨i4, h4, l4⟩ := sNum_mono h3
  obtain ⟨i5, h5, l5⟩ := sWt_mono h4
  injection h5 with h5
  omega

set_option maxRecDepth 100000 in
set_option maxHeartbeats 3200000 in
theorem xRule_any {w : World} {p : Nat} {a : Option Addr} {cap : Nat} {G : List Sg} {s : Option Nat} (h : RdS w p a cap G s) :
    Calls Tryz.prog 35 #[.pointer (some ⟨p, 0, none⟩)] w fun e w' => ∃ l, e = .returned (.agg l.toArray) ∧ RuleX w.heap.size w' (sRule G s).1 l ∧ RdS w' p a cap G (sRule G s).2 ∧ GB p w w' := by
  obtain ⟨j0, ji, jz0, jz1, jz2⟩ := info_parts Tryz.infoCd
  have hp := h.lt
  have X0 : Hid (RdS (w.alloc (.cells #[.slice none 0 0, .slice none 0 0, .int .i64 0, .int .i64 0] 53)) p a cap G s ∧ GB p w (w.alloc (.cells #[.slice none 0 0, .slice none 0 0, .int .i64 0, .int .i64 0] 53)) ∧ Kn (w.alloc (.cells #[.slice none 0 0, .slice none 0 0, .int .i64 0, .int .i64 0] 53)) w.heap.size [.slice none 0 0, .slice none 0 0, .int .i64 0, .int .i64 0] 53) := ⟨h.step (Ext.one _ _), gb_ext (Ext.one _ _), Kn.new w _ _⟩
  have H0 : Hid (RdS w p a cap G s ∧ p < w.heap.size) := ⟨h, hp⟩
  clear h hp
  obtain ⟨o, ho⟩ : ∃ o, o = sRule G s := ⟨_, rfl⟩
  rw [← ho]
  have HO : Hid (o = sRule G s) := ho
  clear ho
  have H1 : Hid (∀ {W}, RdS W p a cap G s → Calls Tryz.prog 32 #[.pointer (some ⟨p, 0, none⟩), .int .i64 1, .string ⟨#[111, 110]⟩] W fun e w' => e = .returned (.tuple #[]) ∧ RdS w' p a cap G (sWt G s 1 tOn) ∧ GB p W w') := fun {W} hW => wants_any 1 tOn hW
  go_enter Tryz.func35, Tryz.ntmps35
  go_wp2_with fail
  generalize w.alloc (.cells #[.slice none 0 0, .slice none 0 0, .int .i64 0, .int .i64 0] 53) = W0 at *
  refine (show Calls Tryz.prog 32 _ _ _ from H1.out X0.out.1).mono ?_
  rintro e w1 ⟨rfl, r1, g1⟩
  have X1 : Hid (RdS w1 p a cap G (sWt G s 1 tOn) ∧ GB p w w1 ∧ Kn w1 w.heap.size [.slice none 0 0, .slice none 0 0, .int .i64 0, .int .i64 0] 53) := ⟨r1, gb_trans X0.out.2.1 g1, X0.out.2.2.gb (by have := H0.out.2; omega) g1⟩
  clear r1 g1 H1 X0
  have H2 : Hid (Calls Tryz.prog 77 #[.pointer (some ⟨p, 0, none⟩)] w1 fun e w' => ∃ v, e = .returned v ∧ OwnZ w' w1.heap.size v (sNums G (sWt G s 1 tOn)).1 ∧ RdS w' p a cap G (sNums G (sWt G s 1 tOn)).2 ∧ GB p w1 w') := xNums_any X1.out.1
  obtain ⟨oz, hoz⟩ : ∃ oz, oz = sNums G (sWt G s 1 tOn) := ⟨_, rfl⟩
  rw [← hoz] at H2
  obtain ⟨zs, s2⟩ := oz
  have HZ : Hid (sNums G (sWt G s 1 tOn) = (zs, s2)) := hoz.symm
  clear hoz
  simp only at H2
  go_wp2_with fail
  refine (show Calls Tryz.prog 77 _ _ _ from H2.out).mono ?_
  rintro e w2 ⟨v1, rfl, oz2, r2, g2⟩
  obtain ⟨a1, e1, hv1⟩ := own_slice oz2
  obtain ⟨n1, hn1⟩ : ∃ n1, n1 = zs.length := ⟨_, rfl⟩
  rw [← hn1] at hv1
  subst hv1
  clear hn1
  have hR1 : w.heap.size + 1 ≤ w1.heap.size := X1.out.2.2.lt
  have HQ : Hid (w.heap.size < w2.heap.size ∧ ∀ x, (Value.slice a1 n1 e1).ownBlock = some x → x < w2.heap.size) := ⟨Nat.lt_of_lt_of_le hR1 g2.size, fun x hx => (own_lt9 oz2 hx).2⟩
  have X2 : Hid (RdS (w2.alloc (.cells #[.slice a1 n1 e1, .slice none 0 0, .int .i64 0, .int .i64 0] 53)) p a cap G s2 ∧ GB p w (w2.alloc (.cells #[.slice a1 n1 e1, .slice none 0 0, .int .i64 0, .int .i64 0] 53)) ∧ Kn (w2.alloc (.cells #[.slice a1 n1 e1, .slice none 0 0, .int .i64 0, .int .i64 0] 53)) w.heap.size [.slice none 0 0, .slice none 0 0, .int .i64 0, .int .i64 0] 53 ∧ Kn (w2.alloc (.cells #[.slice a1 n1 e1, .slice none 0 0, .int .i64 0, .int .i64 0] 53)) w2.heap.size [.slice a1 n1 e1, .slice none 0 0, .int .i64 0, .int .i64 0] 53 ∧ OwnZ (w2.alloc (.cells #[.slice a1 n1 e1, .slice none 0 0, .int .i64 0, .int .i64 0] 53)) (w.heap.size + 1) (.slice a1 n1 e1) zs ∧ OwnC (w2.alloc (.cells #[.slice a1 n1 e1, .slice none 0 0, .int .i64 0, .int .i64 0] 53)) (w2.heap.size + 1) (.slice none 0 0) []) :=
    ⟨r2.step (Ext.one _ _), gb_alloc (gb_trans X1.out.2.1 g2) _, (X1.out.2.2.gb (by have := H0.out.2; omega) g2).alloc _, Kn.new w2 _ _, own_ext (own_mono oz2 hR1) (Ext.one _ _), World.ownsRow_nil _ _ _ _⟩
  clear oz2 r2 g2 X1 H2 hR1
  go_wp2_with fail
  generalize (w2.alloc (.cells #[.slice a1 n1 e1, .slice none 0 0, .int .i64 0, .int .i64 0] 53)) = W2 at *
  generalize w2.heap.size = q at *
  have hqp : Hid (q ≠ p ∧ w.heap.size ≠ p ∧ w.heap.size ≤ q ∧ w.heap.size ≠ q ∧ p < w.heap.size + 1 ∧ p < q + 1 ∧ ∀ x, (Value.slice a1 n1 e1).ownBlock = some x → x < q) := ⟨by have := H0.out.2; have := HQ.out.1; omega, by have := H0.out.2; omega, by have := HQ.out.1; omega, by have := HQ.out.1; omega, by have := H0.out.2; omega, by have := H0.out.2; have := HQ.out.1; omega, HQ.out.2⟩
  clear HQ
  have H3 : Hid (Calls Tryz.prog 73 #[.pointer (some ⟨p, 0, none⟩), .int .i64 1, .string ⟨#[105, 102]⟩] W2 fun e w' => e = .returned (.bool (sIs G s2 1 tIf)) ∧ RdS w' p a cap G (sTk G s2 1 tIf) ∧ GB p W2 w') := takes_any 1 tIf X2.out.1
  rw [show sTk G s2 1 tIf = if sIs G s2 1 tIf then nx s2 else s2 from rfl] at H3
  have HCM : Hid (sConds G s2 = if sIs G s2 1 tIf then sAndF (G.length + 1) G [] (nx s2) else ([], s2)) := rfl
  generalize sIs G s2 1 tIf = z at *
  cases z
  · go_wp2_with fail
    refine (show Calls Tryz.prog 73 _ _ _ from H3.out).mono ?_
    rintro e w9 ⟨rfl, r9, g9⟩
    obtain ⟨t, ht⟩ : ∃ t, t = s2 := ⟨_, rfl⟩
    obtain ⟨acc, hacc⟩ : ∃ acc : List CN, acc = [] := ⟨_, rfl⟩
    have HCO : Hid (sConds G s2 = (acc, t)) := by rw [hacc, ht]; exact HCM.out
    obtain ⟨v, hv⟩ : ∃ v, v = Value.slice none 0 0 := ⟨_, rfl⟩
    have X9 : Hid (RdS w9 p a cap G t ∧ GB p w w9 ∧ Kn w9 w.heap.size [.slice none 0 0, .slice none 0 0, .int .i64 0, .int .i64 0] 53 ∧ Kn w9 q [.slice a1 n1 e1, v, .int .i64 0, .int .i64 0] 53 ∧ OwnZ w9 (w.heap.size + 1) (.slice a1 n1 e1) zs ∧ OwnC w9 (q + 1) (v) acc) := by
      rw [hacc, ht, hv]
      exact ⟨r9, gb_trans X2.out.2.1 g9, X2.out.2.2.1.gb hqp.out.2.1 g9, X2.out.2.2.2.1.gb hqp.out.1 g9, own_gb X2.out.2.2.2.2.1 hqp.out.2.2.2.2.1 g9, own_gb X2.out.2.2.2.2.2 hqp.out.2.2.2.2.2.1 g9⟩
    clear r9 g9 X2 H3 HCM ht hacc hv
    obtain ⟨a2, e2, hv2⟩ := own_slice X9.out.2.2.2.2.2
    obtain ⟨n2, hn2⟩ : ∃ n2, n2 = acc.length := ⟨_, rfl⟩
    rw [← hn2] at hv2
    subst hv2
    clear hn2
    have HTW : Hid (∀ {W}, RdS W p a cap G t → Calls Tryz.prog 32 #[.pointer (some ⟨p, 0, none⟩), .int .i64 1, .string ⟨#[100, 111]⟩] W fun e w' => e = .returned (.tuple #[]) ∧ RdS w' p a cap G (sWt G t 1 tDo) ∧ GB p W w') := fun {W} hW => wants_any 1 tDo hW
    obtain ⟨t1, ht1⟩ : ∃ t1, t1 = sWt G t 1 tDo := ⟨_, rfl⟩
    rw [← ht1] at HTW
    have HT1 : Hid (t1 = sWt G t 1 tDo) := ht1
    clear ht1
    go_wp2_with fail
    refine (show Calls Tryz.prog 32 _ _ _ from HTW.out X9.out.1).mono ?_
    rintro e w10 ⟨rfl, r10, g10⟩
    have X10 : Hid (RdS w10 p a cap G t1 ∧ GB p w w10 ∧ Kn w10 w.heap.size [.slice none 0 0, .slice none 0 0, .int .i64 0, .int .i64 0] 53 ∧ Kn w10 q [.slice a1 n1 e1, .slice a2 n2 e2, .int .i64 0, .int .i64 0] 53 ∧ OwnZ w10 (w.heap.size + 1) (.slice a1 n1 e1) zs ∧ OwnC w10 (q + 1) (.slice a2 n2 e2) acc) := ⟨r10, gb_trans X9.out.2.1 g10, X9.out.2.2.1.gb hqp.out.2.1 g10, X9.out.2.2.2.1.gb hqp.out.1 g10, own_gb X9.out.2.2.2.2.1 hqp.out.2.2.2.2.1 g10, own_gb X9.out.2.2.2.2.2 hqp.out.2.2.2.2.2.1 g10⟩
    clear r10 g10 X9 HTW
    have HAC : Hid (Calls Tryz.prog 34 #[.pointer (some ⟨p, 0, none⟩)] w10 fun e w' => e = .returned (pairV (sAct G t1).1) ∧ RdS w' p a cap G (sAct G t1).2 ∧ GB p w10 w') := xAction_any X10.out.1
    generalize hac : sAct G t1 = oa at *
    obtain ⟨⟨ac, da⟩, t2⟩ := oa
    have HA2 : Hid (sAct G t1 = ((ac, da), t2)) := hac
    clear hac
    unfold pairV at HAC
    simp only at HAC
    go_wp2_with fail
    refine (show Calls Tryz.prog 34 _ _ _ from HAC.out).mono ?_
    rintro e w11 ⟨rfl, r11, g11⟩
    have kq : Kn w11 q [.slice a1 n1 e1, .slice a2 n2 e2, .int .i64 0, .int .i64 0] 53 := X10.out.2.2.2.1.gb hqp.out.1 g11
    have X12 : Hid (RdS ((w11.setCell ⟨q, 2, none⟩ (.int .i64 ac)).setCell ⟨q, 3, none⟩ (.int .i64 da)) p a cap G t2 ∧ GB p w ((w11.setCell ⟨q, 2, none⟩ (.int .i64 ac)).setCell ⟨q, 3, none⟩ (.int .i64 da)) ∧ Kn ((w11.setCell ⟨q, 2, none⟩ (.int .i64 ac)).setCell ⟨q, 3, none⟩ (.int .i64 da)) w.heap.size [.slice none 0 0, .slice none 0 0, .int .i64 0, .int .i64 0] 53 ∧ Kn ((w11.setCell ⟨q, 2, none⟩ (.int .i64 ac)).setCell ⟨q, 3, none⟩ (.int .i64 da)) q [.slice a1 n1 e1, .slice a2 n2 e2, .int .i64 ac, .int .i64 da] 53 ∧ OwnZ ((w11.setCell ⟨q, 2, none⟩ (.int .i64 ac)).setCell ⟨q, 3, none⟩ (.int .i64 da)) (w.heap.size + 1) (.slice a1 n1 e1) zs ∧ OwnC ((w11.setCell ⟨q, 2, none⟩ (.int .i64 ac)).setCell ⟨q, 3, none⟩ (.int .i64 da)) (q + 1) (.slice a2 n2 e2) acc) :=
      ⟨H0.out.1.fresh (H0.out.1.fresh r11 hqp.out.2.2.1) hqp.out.2.2.1, gb_fresh (gb_fresh (gb_trans X10.out.2.1 g11) hqp.out.2.2.1) hqp.out.2.2.1, ((X10.out.2.2.1.gb hqp.out.2.1 g11).other hqp.out.2.2.2.1 _ _).other hqp.out.2.2.2.1 _ _, (kq.set 2 _).set 3 _,
        own_set (own_set (own_gb X10.out.2.2.2.2.1 hqp.out.2.2.2.2.1 g11) (fun x hx => by have := hqp.out.2.2.2.2.2.2 x hx; omega)) (fun x hx => by have := hqp.out.2.2.2.2.2.2 x hx; omega),
        own_set (own_set (own_gb X10.out.2.2.2.2.2 hqp.out.2.2.2.2.2.1 g11) (fun x hx => by have := (own_lt9 X10.out.2.2.2.2.2 hx).1; omega)) (fun x hx => by have := (own_lt9 X10.out.2.2.2.2.2 hx).1; omega)⟩
    have f1 := kq.free
    obtain ⟨c0, c1, c2, c3⟩ := (⟨kq.cell 0 _ rfl, kq.cell 1 _ rfl, kq.cell 2 _ rfl, kq.cell 3 _ rfl⟩ : _ ∧ _ ∧ _ ∧ _)
    clear r11 g11 X10 HAC kq
    go_wp2_with fail
    generalize ((w11.setCell ⟨q, 2, none⟩ (.int .i64 ac)).setCell ⟨q, 3, none⟩ (.int .i64 da)) = w12 at *
    clear f1 c0 c1 c2 c3
    have HTW : Hid (Calls Tryz.prog 32 #[.pointer (some ⟨p, 0, none⟩), .int .i64 3, .string ⟨#[59]⟩] w12 fun e w' => e = .returned (.tuple #[]) ∧ RdS w' p a cap G (sWt G t2 3 tSemi) ∧ GB p w12 w') := wants_any 3 tSemi X12.out.1
    obtain ⟨t3, ht3⟩ : ∃ t3, t3 = sWt G t2 3 tSemi := ⟨_, rfl⟩
    rw [← ht3] at HTW
    have HV : Hid (o = (⟨zs, acc, ac, da⟩, t3)) := by
      unfold Hid
      rw [HO.out]
      unfold sRule
      simp only
      rw [HZ.out]
      simp only
      rw [HCO.out]
      simp only
      rw [← HT1.out, HA2.out, ← ht3]
    clear ht3 HT1 HA2
    refine (show Calls Tryz.prog 32 _ _ _ from HTW.out).mono ?_
    rintro e w14 ⟨rfl, r14, g14⟩
    have kq : Kn w14 q [.slice a1 n1 e1, .slice a2 n2 e2, .int .i64 ac, .int .i64 da] 53 := X12.out.2.2.2.1.gb hqp.out.1 g14
    have kr : Kn w14 w.heap.size [.slice none 0 0, .slice none 0 0, .int .i64 0, .int .i64 0] 53 := X12.out.2.2.1.gb hqp.out.2.1 g14
    have X14 : Hid (RdS ((((w14.setCell ⟨w.heap.size, 0, none⟩ (.slice a1 n1 e1)).setCell ⟨w.heap.size, 1, none⟩ (.slice a2 n2 e2)).setCell ⟨w.heap.size, 2, none⟩ (.int .i64 ac)).setCell ⟨w.heap.size, 3, none⟩ (.int .i64 da)) p a cap G t3 ∧ GB p w ((((w14.setCell ⟨w.heap.size, 0, none⟩ (.slice a1 n1 e1)).setCell ⟨w.heap.size, 1, none⟩ (.slice a2 n2 e2)).setCell ⟨w.heap.size, 2, none⟩ (.int .i64 ac)).setCell ⟨w.heap.size, 3, none⟩ (.int .i64 da)) ∧ Kn ((((w14.setCell ⟨w.heap.size, 0, none⟩ (.slice a1 n1 e1)).setCell ⟨w.heap.size, 1, none⟩ (.slice a2 n2 e2)).setCell ⟨w.heap.size, 2, none⟩ (.int .i64 ac)).setCell ⟨w.heap.size, 3, none⟩ (.int .i64 da)) w.heap.size [.slice a1 n1 e1, .slice a2 n2 e2, .int .i64 ac, .int .i64 da] 53 ∧ OwnZ ((((w14.setCell ⟨w.heap.size, 0, none⟩ (.slice a1 n1 e1)).setCell ⟨w.heap.size, 1, none⟩ (.slice a2 n2 e2)).setCell ⟨w.heap.size, 2, none⟩ (.int .i64 ac)).setCell ⟨w.heap.size, 3, none⟩ (.int .i64 da)) (w.heap.size + 1) (.slice a1 n1 e1) zs ∧ OwnC ((((w14.setCell ⟨w.heap.size, 0, none⟩ (.slice a1 n1 e1)).setCell ⟨w.heap.size, 1, none⟩ (.slice a2 n2 e2)).setCell ⟨w.heap.size, 2, none⟩ (.int .i64 ac)).setCell ⟨w.heap.size, 3, none⟩ (.int .i64 da)) (q + 1) (.slice a2 n2 e2) acc) :=
      ⟨(H0.out.1.fresh (H0.out.1.fresh (H0.out.1.fresh (H0.out.1.fresh r14 (Nat.le_refl _)) (Nat.le_refl _)) (Nat.le_refl _)) (Nat.le_refl _)), (gb_fresh (gb_fresh (gb_fresh (gb_fresh (gb_trans X12.out.2.1 g14) (Nat.le_refl _)) (Nat.le_refl _)) (Nat.le_refl _)) (Nat.le_refl _)), (((kr.set 0 _).set 1 _).set 2 _).set 3 _, (own_set (own_set (own_set (own_set (own_gb X12.out.2.2.2.2.1 hqp.out.2.2.2.2.1 g14) (fun x hx => by have := (own_lt9 X12.out.2.2.2.2.1 hx).1; omega)) (fun x hx => by have := (own_lt9 X12.out.2.2.2.2.1 hx).1; omega)) (fun x hx => by have := (own_lt9 X12.out.2.2.2.2.1 hx).1; omega)) (fun x hx => by have := (own_lt9 X12.out.2.2.2.2.1 hx).1; omega)), (own_set (own_set (own_set (own_set (own_gb X12.out.2.2.2.2.2 hqp.out.2.2.2.2.2.1 g14) (fun x hx => by have := (own_lt9 X12.out.2.2.2.2.2 hx).1; have := hqp.out.2.2.1; omega)) (fun x hx => by have := (own_lt9 X12.out.2.2.2.2.2 hx).1; have := hqp.out.2.2.1; omega)) (fun x hx => by have := (own_lt9 X12.out.2.2.2.2.2 hx).1; have := hqp.out.2.2.1; omega)) (fun x hx => by have := (own_lt9 X12.out.2.2.2.2.2 hx).1; have := hqp.out.2.2.1; omega))⟩
    have f1 := kq.free
    obtain ⟨c0, c1, c2, c3⟩ := (⟨kq.cell 0 _ rfl, kq.cell 1 _ rfl, kq.cell 2 _ rfl, kq.cell 3 _ rfl⟩ : _ ∧ _ ∧ _ ∧ _)
    have f2 := kr.free
    obtain ⟨d0, d1, d2, d3⟩ := (⟨kr.cell 0 _ rfl, kr.cell 1 _ rfl, kr.cell 2 _ rfl, kr.cell 3 _ rfl⟩ : _ ∧ _ ∧ _ ∧ _)
    have hne := hqp.out.2.2.2.1
    have hne2 : ¬ q = w.heap.size := fun e => hne e.symm
    clear r14 g14 X12 HTW kq kr
    go_wp2
    generalize ((((w14.setCell ⟨w.heap.size, 0, none⟩ (.slice a1 n1 e1)).setCell ⟨w.heap.size, 1, none⟩ (.slice a2 n2 e2)).setCell ⟨w.heap.size, 2, none⟩ (.int .i64 ac)).setCell ⟨w.heap.size, 3, none⟩ (.int .i64 da)) = w15 at *
    clear f1 c0 c1 c2 c3 f2 d0 d1 d2 d3
    obtain ⟨d0, d1, d2, d3⟩ := (⟨X14.out.2.2.1.cell 0 _ rfl, X14.out.2.2.1.cell 1 _ rfl, X14.out.2.2.1.cell 2 _ rfl, X14.out.2.2.1.cell 3 _ rfl⟩ : _ ∧ _ ∧ _ ∧ _)
    refine bodyPost_ret (v := .agg #[.slice a1 n1 e1, .slice a2 n2 e2, .int .i64 ac, .int .i64 da]) (by simp [results, Tryz.results35, go_sem, *]) rfl ?_
    rw [HV.out]
    exact ⟨[.slice a1 n1 e1, .slice a2 n2 e2, .int .i64 ac, .int .i64 da], rfl, ⟨_, _, q + 1, rfl, own_mono X14.out.2.2.2.1 (by omega), X14.out.2.2.2.2, by have := hqp.out.2.2.1; omega, fun x hx => by have := hqp.out.2.2.2.2.2.2 x hx; omega⟩, X14.out.1, X14.out.2.1⟩
  · have HCM2 : Hid (sConds G s2 = sAndF (G.length + 1) G [] (nx s2)) := HCM.out
    go_wp2_with fail
    refine (show Calls Tryz.prog 73 _ _ _ from H3.out).mono ?_
    rintro e w3 ⟨rfl, r3, g3⟩
    have X3 : Hid (RdS w3 p a cap G (nx s2) ∧ GB p w w3 ∧ Kn w3 w.heap.size [.slice none 0 0, .slice none 0 0, .int .i64 0, .int .i64 0] 53 ∧ Kn w3 q [.slice a1 n1 e1, .slice none 0 0, .int .i64 0, .int .i64 0] 53 ∧ OwnZ w3 (w.heap.size + 1) (.slice a1 n1 e1) zs ∧ OwnC w3 (q + 1) (.slice none 0 0) []) := ⟨r3, gb_trans X2.out.2.1 g3, X2.out.2.2.1.gb hqp.out.2.1 g3, X2.out.2.2.2.1.gb hqp.out.1 g3, own_gb X2.out.2.2.2.2.1 hqp.out.2.2.2.2.1 g3, own_gb X2.out.2.2.2.2.2 hqp.out.2.2.2.2.2.1 g3⟩
    clear r3 g3 X2 H3 HCM
    go_wp2_with fail
    go_loopw [] (fun wr => ∃ (acc : List CN) (t : Option Nat) (f : Nat) (v : Value), Hid ((sConds G s2 = sAndF f G acc t) ∧ (∀ i, t = some i → G.length + 1 ≤ i + f ∧ acc.length ≤ i) ∧ RdS wr p a cap G t ∧ GB p w wr ∧ Kn wr w.heap.size [.slice none 0 0, .slice none 0 0, .int .i64 0, .int .i64 0] 53 ∧ Kn wr q [.slice a1 n1 e1, v, .int .i64 0, .int .i64 0] 53 ∧ OwnZ wr (w.heap.size + 1) (.slice a1 n1 e1) zs ∧ OwnC wr (q + 1) (v) acc)) (fun W => sLeft W p)
    case atStart => exact ⟨[], nx s2, G.length + 1, .slice none 0 0, HCM2.out, fun i _ => ⟨by omega, by simp⟩, X3.out⟩
    case round =>
      obtain ⟨acc, t, f, v, HI⟩ := hrel
      clear X3 HCM2
      cases t with
      | none =>
        obtain ⟨i7, hK, _⟩ := HI.out.2.2.1.lost
        have c2 := hK.cell 2 _ rfl
        have HCO0 : Hid (sConds G s2 = (acc, none)) := by unfold Hid; rw [HI.out.1, sAndF_none]
        have X90 : Hid _ := HI.out.2.2
        clear hK HI
        go_wp2_with fail
        obtain ⟨w9, hw9⟩ : ∃ w9, w9 = wr := ⟨_, rfl⟩
        rw [← hw9] at X90 ⊢
        obtain ⟨t, ht⟩ : ∃ t : Option Nat, t = none := ⟨_, rfl⟩
        rw [← ht] at X90 HCO0
        have X9 : Hid _ := X90.out
        have HCO : Hid (sConds G s2 = (acc, t)) := HCO0.out
        clear X90 HCO0 hw9 ht c2
        obtain ⟨a2, e2, hv2⟩ := own_slice X9.out.2.2.2.2.2
        obtain ⟨n2, hn2⟩ : ∃ n2, n2 = acc.length := ⟨_, rfl⟩
        rw [← hn2] at hv2
        subst hv2
        clear hn2
        have HTW : Hid (∀ {W}, RdS W p a cap G t → Calls Tryz.prog 32 #[.pointer (some ⟨p, 0, none⟩), .int .i64 1, .string ⟨#[100, 111]⟩] W fun e w' => e = .returned (.tuple #[]) ∧ RdS w' p a cap G (sWt G t 1 tDo) ∧ GB p W w') := fun {W} hW => wants_any 1 tDo hW
        obtain ⟨t1, ht1⟩ : ∃ t1, t1 = sWt G t 1 tDo := ⟨_, rfl⟩
        rw [← ht1] at HTW
        have HT1 : Hid (t1 = sWt G t 1 tDo) := ht1
        clear ht1
        go_wp2_with fail
        refine (show Calls Tryz.prog 32 _ _ _ from HTW.out X9.out.1).mono ?_
        rintro e w10 ⟨rfl, r10, g10⟩
        have X10 : Hid (RdS w10 p a cap G t1 ∧ GB p w w10 ∧ Kn w10 w.heap.size [.slice none 0 0, .slice none 0 0, .int .i64 0, .int .i64 0] 53 ∧ Kn w10 q [.slice a1 n1 e1, .slice a2 n2 e2, .int .i64 0, .int .i64 0] 53 ∧ OwnZ w10 (w.heap.size + 1) (.slice a1 n1 e1) zs ∧ OwnC w10 (q + 1) (.slice a2 n2 e2) acc) := ⟨r10, gb_trans X9.out.2.1 g10, X9.out.2.2.1.gb hqp.out.2.1 g10, X9.out.2.2.2.1.gb hqp.out.1 g10, own_gb X9.out.2.2.2.2.1 hqp.out.2.2.2.2.1 g10, own_gb X9.out.2.2.2.2.2 hqp.out.2.2.2.2.2.1 g10⟩
        clear r10 g10 X9 HTW
        have HAC : Hid (Calls Tryz.prog 34 #[.pointer (some ⟨p, 0, none⟩)] w10 fun e w' => e = .returned (pairV (sAct G t1).1) ∧ RdS w' p a cap G (sAct G t1).2 ∧ GB p w10 w') := xAction_any X10.out.1
        generalize hac : sAct G t1 = oa at *
        obtain ⟨⟨ac, da⟩, t2⟩ := oa
        have HA2 : Hid (sAct G t1 = ((ac, da), t2)) := hac
        clear hac
        unfold pairV at HAC
        simp only at HAC
        go_wp2_with fail
        refine (show Calls Tryz.prog 34 _ _ _ from HAC.out).mono ?_
        rintro e w11 ⟨rfl, r11, g11⟩
        have kq : Kn w11 q [.slice a1 n1 e1, .slice a2 n2 e2, .int .i64 0, .int .i64 0] 53 := X10.out.2.2.2.1.gb hqp.out.1 g11
        have X12 : Hid (RdS ((w11.setCell ⟨q, 2, none⟩ (.int .i64 ac)).setCell ⟨q, 3, none⟩ (.int .i64 da)) p a cap G t2 ∧ GB p w ((w11.setCell ⟨q, 2, none⟩ (.int .i64 ac)).setCell ⟨q, 3, none⟩ (.int .i64 da)) ∧ Kn ((w11.setCell ⟨q, 2, none⟩ (.int .i64 ac)).setCell ⟨q, 3, none⟩ (.int .i64 da)) w.heap.size [.slice none 0 0, .slice none 0 0, .int .i64 0, .int .i64 0] 53 ∧ Kn ((w11.setCell ⟨q, 2, none⟩ (.int .i64 ac)).setCell ⟨q, 3, none⟩ (.int .i64 da)) q [.slice a1 n1 e1, .slice a2 n2 e2, .int .i64 ac, .int .i64 da] 53 ∧ OwnZ ((w11.setCell ⟨q, 2, none⟩ (.int .i64 ac)).setCell ⟨q, 3, none⟩ (.int .i64 da)) (w.heap.size + 1) (.slice a1 n1 e1) zs ∧ OwnC ((w11.setCell ⟨q, 2, none⟩ (.int .i64 ac)).setCell ⟨q, 3, none⟩ (.int .i64 da)) (q + 1) (.slice a2 n2 e2) acc) :=
          ⟨H0.out.1.fresh (H0.out.1.fresh r11 hqp.out.2.2.1) hqp.out.2.2.1, gb_fresh (gb_fresh (gb_trans X10.out.2.1 g11) hqp.out.2.2.1) hqp.out.2.2.1, ((X10.out.2.2.1.gb hqp.out.2.1 g11).other hqp.out.2.2.2.1 _ _).other hqp.out.2.2.2.1 _ _, (kq.set 2 _).set 3 _,
            own_set (own_set (own_gb X10.out.2.2.2.2.1 hqp.out.2.2.2.2.1 g11) (fun x hx => by have := hqp.out.2.2.2.2.2.2 x hx; omega)) (fun x hx => by have := hqp.out.2.2.2.2.2.2 x hx; omega),
            own_set (own_set (own_gb X10.out.2.2.2.2.2 hqp.out.2.2.2.2.2.1 g11) (fun x hx => by have := (own_lt9 X10.out.2.2.2.2.2 hx).1; omega)) (fun x hx => by have := (own_lt9 X10.out.2.2.2.2.2 hx).1; omega)⟩
        have f1 := kq.free
        obtain ⟨c0, c1, c2, c3⟩ := (⟨kq.cell 0 _ rfl, kq.cell 1 _ rfl, kq.cell 2 _ rfl, kq.cell 3 _ rfl⟩ : _ ∧ _ ∧ _ ∧ _)
        clear r11 g11 X10 HAC kq
        go_wp2_with fail
        generalize ((w11.setCell ⟨q, 2, none⟩ (.int .i64 ac)).setCell ⟨q, 3, none⟩ (.int .i64 da)) = w12 at *
        clear f1 c0 c1 c2 c3
        have HTW : Hid (Calls Tryz.prog 32 #[.pointer (some ⟨p, 0, none⟩), .int .i64 3, .string ⟨#[59]⟩] w12 fun e w' => e = .returned (.tuple #[]) ∧ RdS w' p a cap G (sWt G t2 3 tSemi) ∧ GB p w12 w') := wants_any 3 tSemi X12.out.1
        obtain ⟨t3, ht3⟩ : ∃ t3, t3 = sWt G t2 3 tSemi := ⟨_, rfl⟩
        rw [← ht3] at HTW
        have HV : Hid (o = (⟨zs, acc, ac, da⟩, t3)) := by
          unfold Hid
          rw [HO.out]
          unfold sRule
          simp only
          rw [HZ.out]
          simp only
          rw [HCO.out]
          simp only
          rw [← HT1.out, HA2.out, ← ht3]
        clear ht3 HT1 HA2
        refine (show Calls Tryz.prog 32 _ _ _ from HTW.out).mono ?_
        rintro e w14 ⟨rfl, r14, g14⟩
        have kq : Kn w14 q [.slice a1 n1 e1, .slice a2 n2 e2, .int .i64 ac, .int .i64 da] 53 := X12.out.2.2.2.1.gb hqp.out.1 g14
        have kr : Kn w14 w.heap.size [.slice none 0 0, .slice none 0 0, .int .i64 0, .int .i64 0] 53 := X12.out.2.2.1.gb hqp.out.2.1 g14
        have X14 : Hid (RdS ((((w14.setCell ⟨w.heap.size, 0, none⟩ (.slice a1 n1 e1)).setCell ⟨w.heap.size, 1, none⟩ (.slice a2 n2 e2)).setCell ⟨w.heap.size, 2, none⟩ (.int .i64 ac)).setCell ⟨w.heap.size, 3, none⟩ (.int .i64 da)) p a cap G t3 ∧ GB p w ((((w14.setCell ⟨w.heap.size, 0, none⟩ (.slice a1 n1 e1)).setCell ⟨w.heap.size, 1, none⟩ (.slice a2 n2 e2)).setCell ⟨w.heap.size, 2, none⟩ (.int .i64 ac)).setCell ⟨w.heap.size, 3, none⟩ (.int .i64 da)) ∧ Kn ((((w14.setCell ⟨w.heap.size, 0, none⟩ (.slice a1 n1 e1)).setCell ⟨w.heap.size, 1, none⟩ (.slice a2 n2 e2)).setCell ⟨w.heap.size, 2, none⟩ (.int .i64 ac)).setCell ⟨w.heap.size, 3, none⟩ (.int .i64 da)) w.heap.size [.slice a1 n1 e1, .slice a2 n2 e2, .int .i64 ac, .int .i64 da] 53 ∧ OwnZ ((((w14.setCell ⟨w.heap.size, 0, none⟩ (.slice a1 n1 e1)).setCell ⟨w.heap.size, 1, none⟩ (.slice a2 n2 e2)).setCell ⟨w.heap.size, 2, none⟩ (.int .i64 ac)).setCell ⟨w.heap.size, 3, none⟩ (.int .i64 da)) (w.heap.size + 1) (.slice a1 n1 e1) zs ∧ OwnC ((((w14.setCell ⟨w.heap.size, 0, none⟩ (.slice a1 n1 e1)).setCell ⟨w.heap.size, 1, none⟩ (.slice a2 n2 e2)).setCell ⟨w.heap.size, 2, none⟩ (.int .i64 ac)).setCell ⟨w.heap.size, 3, none⟩ (.int .i64 da)) (q + 1) (.slice a2 n2 e2) acc) :=
          ⟨(H0.out.1.fresh (H0.out.1.fresh (H0.out.1.fresh (H0.out.1.fresh r14 (Nat.le_refl _)) (Nat.le_refl _)) (Nat.le_refl _)) (Nat.le_refl _)), (gb_fresh (gb_fresh (gb_fresh (gb_fresh (gb_trans X12.out.2.1 g14) (Nat.le_refl _)) (Nat.le_refl _)) (Nat.le_refl _)) (Nat.le_refl _)), (((kr.set 0 _).set 1 _).set 2 _).set 3 _, (own_set (own_set (own_set (own_set (own_gb X12.out.2.2.2.2.1 hqp.out.2.2.2.2.1 g14) (fun x hx => by have := (own_lt9 X12.out.2.2.2.2.1 hx).1; omega)) (fun x hx => by have := (own_lt9 X12.out.2.2.2.2.1 hx).1; omega)) (fun x hx => by have := (own_lt9 X12.out.2.2.2.2.1 hx).1; omega)) (fun x hx => by have := (own_lt9 X12.out.2.2.2.2.1 hx).1; omega)), (own_set (own_set (own_set (own_set (own_gb X12.out.2.2.2.2.2 hqp.out.2.2.2.2.2.1 g14) (fun x hx => by have := (own_lt9 X12.out.2.2.2.2.2 hx).1; have := hqp.out.2.2.1; omega)) (fun x hx => by have := (own_lt9 X12.out.2.2.2.2.2 hx).1; have := hqp.out.2.2.1; omega)) (fun x hx => by have := (own_lt9 X12.out.2.2.2.2.2 hx).1; have := hqp.out.2.2.1; omega)) (fun x hx => by have := (own_lt9 X12.out.2.2.2.2.2 hx).1; have := hqp.out.2.2.1; omega))⟩
        have f1 := kq.free
        obtain ⟨c0, c1, c2, c3⟩ := (⟨kq.cell 0 _ rfl, kq.cell 1 _ rfl, kq.cell 2 _ rfl, kq.cell 3 _ rfl⟩ : _ ∧ _ ∧ _ ∧ _)
        have f2 := kr.free
        obtain ⟨d0, d1, d2, d3⟩ := (⟨kr.cell 0 _ rfl, kr.cell 1 _ rfl, kr.cell 2 _ rfl, kr.cell 3 _ rfl⟩ : _ ∧ _ ∧ _ ∧ _)
        have hne := hqp.out.2.2.2.1
        have hne2 : ¬ q = w.heap.size := fun e => hne e.symm
        clear r14 g14 X12 HTW kq kr
        go_wp2
        generalize ((((w14.setCell ⟨w.heap.size, 0, none⟩ (.slice a1 n1 e1)).setCell ⟨w.heap.size, 1, none⟩ (.slice a2 n2 e2)).setCell ⟨w.heap.size, 2, none⟩ (.int .i64 ac)).setCell ⟨w.heap.size, 3, none⟩ (.int .i64 da)) = w15 at *
        clear f1 c0 c1 c2 c3 f2 d0 d1 d2 d3
        obtain ⟨d0, d1, d2, d3⟩ := (⟨X14.out.2.2.1.cell 0 _ rfl, X14.out.2.2.1.cell 1 _ rfl, X14.out.2.2.1.cell 2 _ rfl, X14.out.2.2.1.cell 3 _ rfl⟩ : _ ∧ _ ∧ _ ∧ _)
        refine bodyPost_ret (v := .agg #[.slice a1 n1 e1, .slice a2 n2 e2, .int .i64 ac, .int .i64 da]) (by simp [results, Tryz.results35, go_sem, *]) rfl ?_
        rw [HV.out]
        exact ⟨[.slice a1 n1 e1, .slice a2 n2 e2, .int .i64 ac, .int .i64 da], rfl, ⟨_, _, q + 1, rfl, own_mono X14.out.2.2.2.1 (by omega), X14.out.2.2.2.2, by have := hqp.out.2.2.1; omega, fun x hx => by have := hqp.out.2.2.2.2.2.2 x hx; omega⟩, X14.out.1, X14.out.2.1⟩
      | some i =>
        have hK := HI.out.2.2.1.at.1
        have c2 := hK.cell 2 _ rfl
        have HF : Hid (1 ≤ f ∧ sAndF f G acc (some i) = if sIs G (sCond G (some i)).2 1 tAnd then sAndF (f - 1) G (acc ++ [(sCond G (some i)).1]) (nx (sCond G (some i)).2) else (acc ++ [(sCond G (some i)).1], (sCond G (some i)).2)) := by
          have h1 := HI.out.2.1 i rfl
          have h2 := HI.out.2.2.1.at.2
          refine ⟨by omega, ?_⟩
          obtain ⟨g, rfl⟩ : ∃ g, f = g + 1 := ⟨f - 1, by omega⟩
          rfl
        have HJ : Hid (∀ j, (sCond G (some i)).2 = some j → i ≤ j) := fun j hj => sCond_mono G i j hj
        have HC : Hid (∀ W, RdS W p a cap G (some i) → Calls Tryz.prog 78 #[.pointer (some ⟨p, 0, none⟩)] W fun e w' => e = .returned (sCond G (some i)).1.v ∧ RdS w' p a cap G (sCond G (some i)).2 ∧ GB p W w') := fun W hW => xCond_any hW
        clear hK
        obtain ⟨qc, hqc⟩ : ∃ qc, qc = sCond G (some i) := ⟨_, rfl⟩
        rw [← hqc] at HF HJ HC
        obtain ⟨⟨ag, mh, ml, cm, vh, vl⟩, t4⟩ := qc
        clear hqc
        simp only [CN.v] at HC
        simp only at HF HJ
        have X7 : Hid (RdS wr p a cap G (some i) ∧ GB p w wr ∧ acc.length ≤ 1200 ∧ p < w.heap.size ∧ (∀ x, v.ownBlock = some x → q + 1 ≤ x ∧ x < wr.heap.size) ∧ q + 1 ≤ wr.heap.size ∧ p < wr.heap.size) := ⟨HI.out.2.2.1, HI.out.2.2.2.1, by have := (HI.out.2.1 i rfl).2; have := HI.out.2.2.1.at.2; omega, H0.out.2, fun x hx => own_lt9 HI.out.2.2.2.2.2.2.2 hx, HI.out.2.2.2.2.2.1.lt, HI.out.2.2.1.lt⟩
        go_wp2_with fail
        refine' wp_region_loosea_tail 7 (.inl _ :: .inl _ :: .inl _ :: .inr (fun vv W => vv = .agg #[.int .i64 ag, .int .i64 mh, .int .i64 ml, .int .i64 cm, .int .i64 vh, .int .i64 vl]) :: .inr (fun vv W => ∃ h : Nat, vv = .slice (some ⟨h, 0, none⟩) 1 1 ∧ wr.heap.size ≤ h ∧ Kn W h [.int .i64 ag, .int .i64 mh, .int .i64 ml, .int .i64 cm, .int .i64 vh, .int .i64 vl] 78) :: .inr (fun vv W => ∃ (g cap' : Nat), vv = .slice (some ⟨g, 0, none⟩) (acc.length + 1) cap' ∧ W.ownsRow (q + 1) 78 6 (.slice (some ⟨g, 0, none⟩) (acc.length + 1) cap') (acc.length + 1) (flatC acc ++ [.int .i64 ag, .int .i64 mh, .int .i64 ml, .int .i64 cm, .int .i64 vh, .int .i64 vl])) :: .inl _ :: []) (CA (fun b1 b2 W => (RdS W p a cap G (plcS b1 t4 (some i)) ∧ GB p w W ∧ Kn W w.heap.size [.slice none 0 0, .slice none 0 0, .int .i64 0, .int .i64 0] 53 ∧ Kn W q [.slice a1 n1 e1, v, .int .i64 0, .int .i64 0] 53 ∧ OwnZ W (w.heap.size + 1) (.slice a1 n1 e1) zs ∧ wr.heap.size ≤ W.heap.size) ∧ (b2 = false → W.ownsRow (q + 1) 78 6 v acc.length (flatC acc))) 3 5) (fun ch W => False) (fun x => True) (fun i W W' => (i = 5 → W.grownBy W' v.ownBlock) ∧ (i ≠ 5 → GB p W W')) (by kernel_rfl) (by kernel_rfl) (⟨⟨X7.out.1.step ⟨rfl, rfl, rfl, Nat.le_refl _, fun _ _ => rfl⟩, gb_drew X7.out.2.1, HI.out.2.2.2.2.1, HI.out.2.2.2.2.2.1, HI.out.2.2.2.2.2.2.1, Nat.le_refl _⟩, fun _ => HI.out.2.2.2.2.2.2.2⟩) ?hIA ?hGA ?hBA (fun i ls w hi h => CA_ne (by intro e; subst e; cases hi) (by intro e; subst e; cases hi) h) ?hAA ?hlA ?hMA
        case' hMA => skip
        simp only [List.take_succ_cons, List.take_zero, List.drop_succ_cons, List.drop_zero]
        apply wpLooseA_val rfl rfl (by decide) (by decide)
        case hs =>
          intro b1 b2 w1 hC hd Q1 hQ1 hP1
          dsimp only [bare]
          have q1 := hC.1.2.2.2.1.cell 1 _ rfl
          clear hd hP1
          have HCC : Hid _ := hC
          clear hC
          go_wp2
          exact ⟨HCC.out, ⟨fun h => by omega, fun _ => gb_refl _ _⟩⟩
        case ha => rfl
        apply wpLooseA_val rfl rfl (by decide) (by decide)
        case hs =>
          intro b1 b2 w1 hC hd Q1 hQ1 hP1
          dsimp only [bare]
          have q1 := hC.1.2.2.2.1.cell 1 _ rfl
          clear hd hP1
          have HCC : Hid _ := hC
          clear hC
          go_wp2
          exact ⟨HCC.out, ⟨fun h => by omega, fun _ => gb_refl _ _⟩⟩
        case ha => rfl
        apply wpLooseA_val rfl rfl (by decide) (by decide)
        case hs =>
          intro b1 b2 w1 hC hd Q1 hQ1 hP1
          dsimp only [bare]
          have q1 := hC.1.2.2.2.1.cell 1 _ rfl
          clear hd hP1
          have HCC : Hid _ := hC
          clear hC
          go_wp2
          exact ⟨HCC.out, ⟨fun h => by omega, fun _ => gb_refl _ _⟩⟩
        case ha => rfl
        refine wpLooseA_s1 rfl rfl (by decide) (by decide) ?_ (fun vA_3 => ?_)
        · intro b2 w1 hC hd Q1 hQ1 hP1
          dsimp only [bare]
          clear hd
          have HCC : Hid _ := hC
          have HQ : Hid _ := hQ1
          clear hC hQ1 hP1
          go_wp2_with fail
          refine (show Calls Tryz.prog 78 _ _ _ from HC.out _ HCC.out.1.1).mono ?_
          rintro e w8 ⟨rfl, r8, g8⟩
          have G8 : Hid (GB p w1 w8 ∧ RdS w8 p a cap G t4) := ⟨g8, r8⟩
          clear g8 r8
          go_wp2_with fail
          obtain ⟨⟨h1, h2, h3, h4, h5, h6⟩, h7⟩ := HCC.out
          exact HQ.out _ _ ⟨⟨⟨G8.out.2, gb_trans h2 G8.out.1, h3.gb hqp.out.2.1 G8.out.1, h4.gb hqp.out.1 G8.out.1, own_gb h5 hqp.out.2.2.2.2.1 G8.out.1, Nat.le_trans h6 G8.out.1.size⟩, fun hb => own_gb (h7 hb) hqp.out.2.2.2.2.2.1 G8.out.1⟩, ⟨fun h => by omega, fun _ => G8.out.1⟩, rfl⟩
        refine wpLooseA_rel rfl rfl (by decide) (by decide) ?_ (fun vA_4 => ?_)
        · intro b1 b2 w1 hC hd Q1 hQ1 hP1
          dsimp only [bare]
          have h3 : vA_3 = .agg #[.int .i64 ag, .int .i64 mh, .int .i64 ml, .int .i64 cm, .int .i64 vh, .int .i64 vl] := hd ⟨3, .data⟩ (by simp) rfl _ rfl (by simp [Act.put])
          clear hd hP1
          subst h3
          have HCC : Hid _ := hC
          have HQ : Hid _ := hQ1
          clear hC hQ1
          go_wp2_with fail
          obtain ⟨⟨h1, h2, h3, h4, h5, h6⟩, h7⟩ := HCC.out
          exact HQ.out _ _ ⟨⟨⟨h1.step (Ext.one _ _), gb_alloc h2 _, h3.alloc _, h4.alloc _, own_ext h5 (Ext.one _ _), by simp; omega⟩, fun hb => own_ext (h7 hb) (Ext.one _ _)⟩, ⟨fun h => by omega, fun _ => gb_ext (Ext.one _ _)⟩, w1.heap.size, rfl, h6, Kn.new _ _ _⟩
        refine wpLooseA_s2 rfl rfl (by decide) (by decide) ?_ (fun vA_5 => ?_)
        · intro b1 w1 hC hd Q1 hQ1 hP1
          dsimp only [bare]
          have h4 : ∃ h : Nat, vA_4 = .slice (some ⟨h, 0, none⟩) 1 1 ∧ wr.heap.size ≤ h ∧ Kn w1 h [.int .i64 ag, .int .i64 mh, .int .i64 ml, .int .i64 cm, .int .i64 vh, .int .i64 vl] 78 := hd ⟨4, .data⟩ (by simp) rfl _ rfl (by simp [Act.put])
          clear hd hP1
          obtain ⟨h, rfl, e3, e4⟩ := h4
          have HCC : Hid _ := hC
          have HQ : Hid _ := hQ1
          have HBK : Hid (Kn w1 h [.int .i64 ag, .int .i64 mh, .int .i64 ml, .int .i64 cm, .int .i64 vh, .int .i64 vl] 78 ∧ q + 1 ≤ w1.heap.size) := ⟨e4, Nat.le_trans X7.out.2.2.2.2.2.1 hC.1.2.2.2.2.2⟩
          have hlen : acc.length ≤ 1200 := X7.out.2.2.1
          clear hC hQ1 e3 e4
          go_wp2_with (at_builtin; refine wpList_append_lies _ rfl _ _ 51 rfl (q + 1) 78 j0 (.agg #[.int .i64 0, .int .i64 0, .int .i64 0, .int .i64 0, .int .i64 0, .int .i64 0]) 6 48 Tryz.underlying51 ji jz0 jz1 jz2 rfl (by decide) _ _ _ rfl (HCC.out.2 rfl) ⟨h, 0, none⟩ 1 1 [.int .i64 ag, .int .i64 mh, .int .i64 ml, .int .i64 cm, .int .i64 vh, .int .i64 vl] rfl rfl ?c1 ?c2 (by omega) ?c3 ?c4 ?c5 w1.heap.size rfl ?_)
          case c1 => exact fun j u hu => HBK.out.1.cell j u hu
          case c2 => simp [Value.oneCell']
          case c3 => unfold maxLen; omega
          case c4 => omega
          case c5 => exact HBK.out.2
          intro g cap' w5 hown5 hgrow5 hat5 hlt5
          obtain ⟨⟨h1, h2, h3, h4, h5, h6⟩, h7⟩ := HCC.out
          have hv1 := X7.out.2.2.2.2.1
          have hrow : ∀ x, v.ownBlock = some x → w.heap.size ≤ x := fun x hx => by have := (hv1 x hx).1; have := hqp.out.2.2.1; omega
          have POST : Hid ((RdS w5 p a cap G (plcS b1 t4 (some i)) ∧ GB p w w5 ∧ Kn w5 w.heap.size [.slice none 0 0, .slice none 0 0, .int .i64 0, .int .i64 0] 53 ∧ Kn w5 q [.slice a1 n1 e1, v, .int .i64 0, .int .i64 0] 53 ∧ OwnZ w5 (w.heap.size + 1) (.slice a1 n1 e1) zs ∧ wr.heap.size ≤ w5.heap.size) ∧ w1.grownBy w5 v.ownBlock ∧ w5.ownsRow (q + 1) 78 6 (.slice (some ⟨g, 0, none⟩) (acc.length + 1) cap') (acc.length + 1) (flatC acc ++ [.int .i64 ag, .int .i64 mh, .int .i64 ml, .int .i64 cm, .int .i64 vh, .int .i64 vl])) := ⟨⟨H0.out.1.row h1 hgrow5 hrow, gb_row h2 hgrow5 hrow, h3.row hgrow5 (fun e => by have := (hv1 _ e).1; have := hqp.out.2.2.1; omega), h4.row hgrow5 (fun e => by have := (hv1 _ e).1; omega), own_row h5 hgrow5 (fun x hx e => by have := hqp.out.2.2.2.2.2.2 x hx; have := (hv1 _ e).1; omega), Nat.le_trans h6 hgrow5.size⟩, hgrow5, hown5⟩
          clear h1 h2 h3 h4 h5 h6 h7 hown5 hgrow5 hat5 hlt5 hv1 hrow
          go_wp2_with fail
          exact HQ.out _ _ ⟨⟨POST.out.1, fun hb => by cases hb⟩, ⟨fun _ => POST.out.2.1, fun h => by omega⟩, g, cap', rfl, POST.out.2.2⟩
        apply wpLooseA_val rfl rfl (by decide) (by decide)
        case hs =>
          intro b1 b2 w1 hC hd Q1 hQ1 hP1
          dsimp only [bare]
          have q1 := hC.1.2.2.2.1.cell 1 _ rfl
          clear hd hP1
          have HCC : Hid _ := hC
          clear hC
          go_wp2
          exact ⟨HCC.out, ⟨fun h => by omega, fun _ => gb_refl _ _⟩⟩
        case ha => rfl
        refine wpLooseA_nil ?_
        intro hJA lsA wA hlsA hCA hFA
        simp only [CA, show lsA.getD 3 false = true from hlsA _ (by decide), show lsA.getD 5 false = true from hlsA _ (by decide)] at hCA
        · obtain ⟨⟨h1, h2, h3, h4, h5, h6⟩, _⟩ := hCA
          obtain ⟨g, cap', rfl, hown⟩ := (hFA 5 _ rfl (by decide) (by simp) : ∃ (g cap' : Nat), vA_5 = .slice (some ⟨g, 0, none⟩) (acc.length + 1) cap' ∧ wA.ownsRow (q + 1) 78 6 (.slice (some ⟨g, 0, none⟩) (acc.length + 1) cap') (acc.length + 1) (flatC acc ++ [.int .i64 ag, .int .i64 mh, .int .i64 ml, .int .i64 cm, .int .i64 vh, .int .i64 vl]))
          have hg := (own_lt9 (x := g) hown rfl).1
          rw [show plcS true t4 (some i) = t4 from rfl] at h1
          have X8 : Hid (RdS (wA.setCell ⟨q, 1, none⟩ (.slice (some ⟨g, 0, none⟩) (acc.length + 1) cap')) p a cap G t4 ∧ GB p w (wA.setCell ⟨q, 1, none⟩ (.slice (some ⟨g, 0, none⟩) (acc.length + 1) cap')) ∧ Kn (wA.setCell ⟨q, 1, none⟩ (.slice (some ⟨g, 0, none⟩) (acc.length + 1) cap')) w.heap.size [.slice none 0 0, .slice none 0 0, .int .i64 0, .int .i64 0] 53 ∧ Kn (wA.setCell ⟨q, 1, none⟩ (.slice (some ⟨g, 0, none⟩) (acc.length + 1) cap')) q [.slice a1 n1 e1, .slice (some ⟨g, 0, none⟩) (acc.length + 1) cap', .int .i64 0, .int .i64 0] 53 ∧ OwnZ (wA.setCell ⟨q, 1, none⟩ (.slice (some ⟨g, 0, none⟩) (acc.length + 1) cap')) (w.heap.size + 1) (.slice a1 n1 e1) zs ∧ OwnC (wA.setCell ⟨q, 1, none⟩ (.slice (some ⟨g, 0, none⟩) (acc.length + 1) cap')) (q + 1) (.slice (some ⟨g, 0, none⟩) (acc.length + 1) cap') (acc ++ [(⟨ag, mh, ml, cm, vh, vl⟩ : CN)])) := by
            refine ⟨H0.out.1.fresh h1 hqp.out.2.2.1, gb_fresh h2 hqp.out.2.2.1, h3.other hqp.out.2.2.2.1 _ _, h4.set 1 _, own_set h5 (fun x hx => by have := hqp.out.2.2.2.2.2.2 x hx; omega), ?_⟩
            have := own_set (q := q) (k := 1) (u := .slice (some ⟨g, 0, none⟩) (acc.length + 1) cap') hown (fun x hx => by simp [Value.ownBlock] at hx; omega)
            have e := flatC_push acc (⟨ag, mh, ml, cm, vh, vl⟩ : CN)
            simp only [CN.l] at e
            rw [e] at this
            unfold OwnC
            rw [List.length_append]
            exact this
          have q1 := h4.cell 1 _ rfl
          have f3 := h4.free
          clear h1 h2 h3 h4 h5 h6 hown hFA
          go_wp2_with fail
          generalize wA.setCell ⟨q, 1, none⟩ (.slice (some ⟨g, 0, none⟩) (acc.length + 1) cap') = w8 at *
          clear q1 f3
          have HT : Hid (Calls Tryz.prog 73 #[.pointer (some ⟨p, 0, none⟩), .int .i64 1, .string ⟨#[97, 110, 100]⟩] w8 fun e w' => e = .returned (.bool (sIs G t4 1 tAnd)) ∧ RdS w' p a cap G (sTk G t4 1 tAnd) ∧ GB p w8 w') := takes_any 1 tAnd X8.out.1
          rw [show sTk G t4 1 tAnd = if sIs G t4 1 tAnd then nx t4 else t4 from rfl] at HT
          obtain ⟨nn, hnn⟩ : ∃ nn, nn = acc.length + 1 := ⟨_, rfl⟩
          rw [← hnn] at X8
          clear hnn
          generalize hz : sIs G t4 1 tAnd = z at *
          cases z
          · go_wp2_with fail
            refine (show Calls Tryz.prog 73 _ _ _ from HT.out).mono ?_
            rintro e w9 ⟨rfl, r9, g9⟩
            obtain ⟨t, ht⟩ : ∃ t, t = t4 := ⟨_, rfl⟩
            have HCO0 : Hid (sConds G s2 = (acc ++ [(⟨ag, mh, ml, cm, vh, vl⟩ : CN)], t)) := by
              unfold Hid
              rw [HI.out.1, HF.out.2, ht]
              rfl
            obtain ⟨v', hv'⟩ : ∃ v', v' = Value.slice (some ⟨g, 0, none⟩) nn cap' := ⟨_, rfl⟩
            have X90 : Hid (RdS w9 p a cap G t ∧ GB p w w9 ∧ Kn w9 w.heap.size [.slice none 0 0, .slice none 0 0, .int .i64 0, .int .i64 0] 53 ∧ Kn w9 q [.slice a1 n1 e1, v', .int .i64 0, .int .i64 0] 53 ∧ OwnZ w9 (w.heap.size + 1) (.slice a1 n1 e1) zs ∧ OwnC w9 (q + 1) (v') (acc ++ [(⟨ag, mh, ml, cm, vh, vl⟩ : CN)])) := by
              rw [ht, hv']
              exact ⟨r9, gb_trans X8.out.2.1 g9, X8.out.2.2.1.gb hqp.out.2.1 g9, X8.out.2.2.2.1.gb hqp.out.1 g9, own_gb X8.out.2.2.2.2.1 hqp.out.2.2.2.2.1 g9, own_gb X8.out.2.2.2.2.2 hqp.out.2.2.2.2.2.1 g9⟩
            clear r9 g9 X8 HT HI X7 HF HJ HC ht hz hv'
            generalize acc ++ [(⟨ag, mh, ml, cm, vh, vl⟩ : CN)] = acc' at *
            have X9 : Hid _ := X90.out
            have HCO : Hid _ := HCO0.out
            clear X90 HCO0
            obtain ⟨a2, e2, hv2⟩ := own_slice X9.out.2.2.2.2.2
            obtain ⟨n2, hn2⟩ : ∃ n2, n2 = acc'.length := ⟨_, rfl⟩
            rw [← hn2] at hv2
            subst hv2
            clear hn2
            have HTW : Hid (∀ {W}, RdS W p a cap G t → Calls Tryz.prog 32 #[.pointer (some ⟨p, 0, none⟩), .int .i64 1, .string ⟨#[100, 111]⟩] W fun e w' => e = .returned (.tuple #[]) ∧ RdS w' p a cap G (sWt G t 1 tDo) ∧ GB p W w') := fun {W} hW => wants_any 1 tDo hW
            obtain ⟨t1, ht1⟩ : ∃ t1, t1 = sWt G t 1 tDo := ⟨_, rfl⟩
            rw [← ht1] at HTW
            have HT1 : Hid (t1 = sWt G t 1 tDo) := ht1
            clear ht1
            go_wp2_with fail
            refine (show Calls Tryz.prog 32 _ _ _ from HTW.out X9.out.1).mono ?_
            rintro e w10 ⟨rfl, r10, g10⟩
            have X10 : Hid (RdS w10 p a cap G t1 ∧ GB p w w10 ∧ Kn w10 w.heap.size [.slice none 0 0, .slice none 0 0, .int .i64 0, .int .i64 0] 53 ∧ Kn w10 q [.slice a1 n1 e1, .slice a2 n2 e2, .int .i64 0, .int .i64 0] 53 ∧ OwnZ w10 (w.heap.size + 1) (.slice a1 n1 e1) zs ∧ OwnC w10 (q + 1) (.slice a2 n2 e2) acc') := ⟨r10, gb_trans X9.out.2.1 g10, X9.out.2.2.1.gb hqp.out.2.1 g10, X9.out.2.2.2.1.gb hqp.out.1 g10, own_gb X9.out.2.2.2.2.1 hqp.out.2.2.2.2.1 g10, own_gb X9.out.2.2.2.2.2 hqp.out.2.2.2.2.2.1 g10⟩
            clear r10 g10 X9 HTW
            have HAC : Hid (Calls Tryz.prog 34 #[.pointer (some ⟨p, 0, none⟩)] w10 fun e w' => e = .returned (pairV (sAct G t1).1) ∧ RdS w' p a cap G (sAct G t1).2 ∧ GB p w10 w') := xAction_any X10.out.1
            generalize hac : sAct G t1 = oa at *
            obtain ⟨⟨ac, da⟩, t2⟩ := oa
            have HA2 : Hid (sAct G t1 = ((ac, da), t2)) := hac
            clear hac
            unfold pairV at HAC
            simp only at HAC
            go_wp2_with fail
            refine (show Calls Tryz.prog 34 _ _ _ from HAC.out).mono ?_
            rintro e w11 ⟨rfl, r11, g11⟩
            have kq : Kn w11 q [.slice a1 n1 e1, .slice a2 n2 e2, .int .i64 0, .int .i64 0] 53 := X10.out.2.2.2.1.gb hqp.out.1 g11
            have X12 : Hid (RdS ((w11.setCell ⟨q, 2, none⟩ (.int .i64 ac)).setCell ⟨q, 3, none⟩ (.int .i64 da)) p a cap G t2 ∧ GB p w ((w11.setCell ⟨q, 2, none⟩ (.int .i64 ac)).setCell ⟨q, 3, none⟩ (.int .i64 da)) ∧ Kn ((w11.setCell ⟨q, 2, none⟩ (.int .i64 ac)).setCell ⟨q, 3, none⟩ (.int .i64 da)) w.heap.size [.slice none 0 0, .slice none 0 0, .int .i64 0, .int .i64 0] 53 ∧ Kn ((w11.setCell ⟨q, 2, none⟩ (.int .i64 ac)).setCell ⟨q, 3, none⟩ (.int .i64 da)) q [.slice a1 n1 e1, .slice a2 n2 e2, .int .i64 ac, .int .i64 da] 53 ∧ OwnZ ((w11.setCell ⟨q, 2, none⟩ (.int .i64 ac)).setCell ⟨q, 3, none⟩ (.int .i64 da)) (w.heap.size + 1) (.slice a1 n1 e1) zs ∧ OwnC ((w11.setCell ⟨q, 2, none⟩ (.int .i64 ac)).setCell ⟨q, 3, none⟩ (.int .i64 da)) (q + 1) (.slice a2 n2 e2) acc') :=
              ⟨H0.out.1.fresh (H0.out.1.fresh r11 hqp.out.2.2.1) hqp.out.2.2.1, gb_fresh (gb_fresh (gb_trans X10.out.2.1 g11) hqp.out.2.2.1) hqp.out.2.2.1, ((X10.out.2.2.1.gb hqp.out.2.1 g11).other hqp.out.2.2.2.1 _ _).other hqp.out.2.2.2.1 _ _, (kq.set 2 _).set 3 _,
                own_set (own_set (own_gb X10.out.2.2.2.2.1 hqp.out.2.2.2.2.1 g11) (fun x hx => by have := hqp.out.2.2.2.2.2.2 x hx; omega)) (fun x hx => by have := hqp.out.2.2.2.2.2.2 x hx; omega),
                own_set (own_set (own_gb X10.out.2.2.2.2.2 hqp.out.2.2.2.2.2.1 g11) (fun x hx => by have := (own_lt9 X10.out.2.2.2.2.2 hx).1; omega)) (fun x hx => by have := (own_lt9 X10.out.2.2.2.2.2 hx).1; omega)⟩
            have f1 := kq.free
            obtain ⟨c0, c1, c2, c3⟩ := (⟨kq.cell 0 _ rfl, kq.cell 1 _ rfl, kq.cell 2 _ rfl, kq.cell 3 _ rfl⟩ : _ ∧ _ ∧ _ ∧ _)
            clear r11 g11 X10 HAC kq
            go_wp2_with fail
            generalize ((w11.setCell ⟨q, 2, none⟩ (.int .i64 ac)).setCell ⟨q, 3, none⟩ (.int .i64 da)) = w12 at *
            clear f1 c0 c1 c2 c3
            have HTW : Hid (Calls Tryz.prog 32 #[.pointer (some ⟨p, 0, none⟩), .int .i64 3, .string ⟨#[59]⟩] w12 fun e w' => e = .returned (.tuple #[]) ∧ RdS w' p a cap G (sWt G t2 3 tSemi) ∧ GB p w12 w') := wants_any 3 tSemi X12.out.1
            obtain ⟨t3, ht3⟩ : ∃ t3, t3 = sWt G t2 3 tSemi := ⟨_, rfl⟩
            rw [← ht3] at HTW
            have HV : Hid (o = (⟨zs, acc', ac, da⟩, t3)) := by
              unfold Hid
              rw [HO.out]
              unfold sRule
              simp only
              rw [HZ.out]
              simp only
              rw [HCO.out]
              simp only
              rw [← HT1.out, HA2.out, ← ht3]
            clear ht3 HT1 HA2
            refine (show Calls Tryz.prog 32 _ _ _ from HTW.out).mono ?_
            rintro e w14 ⟨rfl, r14, g14⟩
            have kq : Kn w14 q [.slice a1 n1 e1, .slice a2 n2 e2, .int .i64 ac, .int .i64 da] 53 := X12.out.2.2.2.1.gb hqp.out.1 g14
            have kr : Kn w14 w.heap.size [.slice none 0 0, .slice none 0 0, .int .i64 0, .int .i64 0] 53 := X12.out.2.2.1.gb hqp.out.2.1 g14
            have X14 : Hid (RdS ((((w14.setCell ⟨w.heap.size, 0, none⟩ (.slice a1 n1 e1)).setCell ⟨w.heap.size, 1, none⟩ (.slice a2 n2 e2)).setCell ⟨w.heap.size, 2, none⟩ (.int .i64 ac)).setCell ⟨w.heap.size, 3, none⟩ (.int .i64 da)) p a cap G t3 ∧ GB p w ((((w14.setCell ⟨w.heap.size, 0, none⟩ (.slice a1 n1 e1)).setCell ⟨w.heap.size, 1, none⟩ (.slice a2 n2 e2)).setCell ⟨w.heap.size, 2, none⟩ (.int .i64 ac)).setCell ⟨w.heap.size, 3, none⟩ (.int .i64 da)) ∧ Kn ((((w14.setCell ⟨w.heap.size, 0, none⟩ (.slice a1 n1 e1)).setCell ⟨w.heap.size, 1, none⟩ (.slice a2 n2 e2)).setCell ⟨w.heap.size, 2, none⟩ (.int .i64 ac)).setCell ⟨w.heap.size, 3, none⟩ (.int .i64 da)) w.heap.size [.slice a1 n1 e1, .slice a2 n2 e2, .int .i64 ac, .int .i64 da] 53 ∧ OwnZ ((((w14.setCell ⟨w.heap.size, 0, none⟩ (.slice a1 n1 e1)).setCell ⟨w.heap.size, 1, none⟩ (.slice a2 n2 e2)).setCell ⟨w.heap.size, 2, none⟩ (.int .i64 ac)).setCell ⟨w.heap.size, 3, none⟩ (.int .i64 da)) (w.heap.size + 1) (.slice a1 n1 e1) zs ∧ OwnC ((((w14.setCell ⟨w.heap.size, 0, none⟩ (.slice a1 n1 e1)).setCell ⟨w.heap.size, 1, none⟩ (.slice a2 n2 e2)).setCell ⟨w.heap.size, 2, none⟩ (.int .i64 ac)).setCell ⟨w.heap.size, 3, none⟩ (.int .i64 da)) (q + 1) (.slice a2 n2 e2) acc') :=
              ⟨(H0.out.1.fresh (H0.out.1.fresh (H0.out.1.fresh (H0.out.1.fresh r14 (Nat.le_refl _)) (Nat.le_refl _)) (Nat.le_refl _)) (Nat.le_refl _)), (gb_fresh (gb_fresh (gb_fresh (gb_fresh (gb_trans X12.out.2.1 g14) (Nat.le_refl _)) (Nat.le_refl _)) (Nat.le_refl _)) (Nat.le_refl _)), (((kr.set 0 _).set 1 _).set 2 _).set 3 _, (own_set (own_set (own_set (own_set (own_gb X12.out.2.2.2.2.1 hqp.out.2.2.2.2.1 g14) (fun x hx => by have := (own_lt9 X12.out.2.2.2.2.1 hx).1; omega)) (fun x hx => by have := (own_lt9 X12.out.2.2.2.2.1 hx).1; omega)) (fun x hx => by have := (own_lt9 X12.out.2.2.2.2.1 hx).1; omega)) (fun x hx => by have := (own_lt9 X12.out.2.2.2.2.1 hx).1; omega)), (own_set (own_set (own_set (own_set (own_gb X12.out.2.2.2.2.2 hqp.out.2.2.2.2.2.1 g14) (fun x hx => by have := (own_lt9 X12.out.2.2.2.2.2 hx).1; have := hqp.out.2.2.1; omega)) (fun x hx => by have := (own_lt9 X12.out.2.2.2.2.2 hx).1; have := hqp.out.2.2.1; omega)) (fun x hx => by have := (own_lt9 X12.out.2.2.2.2.2 hx).1; have := hqp.out.2.2.1; omega)) (fun x hx => by have := (own_lt9 X12.out.2.2.2.2.2 hx).1; have := hqp.out.2.2.1; omega))⟩
            have f1 := kq.free
            obtain ⟨c0, c1, c2, c3⟩ := (⟨kq.cell 0 _ rfl, kq.cell 1 _ rfl, kq.cell 2 _ rfl, kq.cell 3 _ rfl⟩ : _ ∧ _ ∧ _ ∧ _)
            have f2 := kr.free
            obtain ⟨d0, d1, d2, d3⟩ := (⟨kr.cell 0 _ rfl, kr.cell 1 _ rfl, kr.cell 2 _ rfl, kr.cell 3 _ rfl⟩ : _ ∧ _ ∧ _ ∧ _)
            have hne := hqp.out.2.2.2.1
            have hne2 : ¬ q = w.heap.size := fun e => hne e.symm
            clear r14 g14 X12 HTW kq kr
            go_wp2
            generalize ((((w14.setCell ⟨w.heap.size, 0, none⟩ (.slice a1 n1 e1)).setCell ⟨w.heap.size, 1, none⟩ (.slice a2 n2 e2)).setCell ⟨w.heap.size, 2, none⟩ (.int .i64 ac)).setCell ⟨w.heap.size, 3, none⟩ (.int .i64 da)) = w15 at *
            clear f1 c0 c1 c2 c3 f2 d0 d1 d2 d3
            obtain ⟨d0, d1, d2, d3⟩ := (⟨X14.out.2.2.1.cell 0 _ rfl, X14.out.2.2.1.cell 1 _ rfl, X14.out.2.2.1.cell 2 _ rfl, X14.out.2.2.1.cell 3 _ rfl⟩ : _ ∧ _ ∧ _ ∧ _)
            refine bodyPost_ret (v := .agg #[.slice a1 n1 e1, .slice a2 n2 e2, .int .i64 ac, .int .i64 da]) (by simp [results, Tryz.results35, go_sem, *]) rfl ?_
            rw [HV.out]
            exact ⟨[.slice a1 n1 e1, .slice a2 n2 e2, .int .i64 ac, .int .i64 da], rfl, ⟨_, _, q + 1, rfl, own_mono X14.out.2.2.2.1 (by omega), X14.out.2.2.2.2, by have := hqp.out.2.2.1; omega, fun x hx => by have := hqp.out.2.2.2.2.2.2 x hx; omega⟩, X14.out.1, X14.out.2.1⟩
          · obtain ⟨j, rfl, hj⟩ := sIs_lt hz
            have hij := HJ.out j rfl
            have HO2 : Hid (sConds G s2 = sAndF (f - 1) G (acc ++ [(⟨ag, mh, ml, cm, vh, vl⟩ : CN)]) (some (j + 1)) ∧ G.length + 1 ≤ j + 1 + (f - 1) ∧ (acc ++ [(⟨ag, mh, ml, cm, vh, vl⟩ : CN)]).length ≤ j + 1 ∧ sLeft wr p = 1301 - i ∧ i ≤ j ∧ j < 1300) := by
              have h1 := HI.out.2.1 i rfl
              have h2 := HF.out.1
              have h3 := HI.out.2.2.1.left
              have h4 := X8.out.1.at.2
              refine ⟨?_, by omega, by simp; omega, h3, hij, by omega⟩
              rw [HI.out.1, HF.out.2]
              rfl
            clear HI hz X7 HF HJ HC
            go_wp2_with fail
            refine (show Calls Tryz.prog 73 _ _ _ from HT.out).mono ?_
            rintro e w9 ⟨rfl, r9, g9⟩
            have X9 : Hid (RdS w9 p a cap G (some (j + 1)) ∧ GB p w w9 ∧ Kn w9 w.heap.size [.slice none 0 0, .slice none 0 0, .int .i64 0, .int .i64 0] 53 ∧ Kn w9 q [.slice a1 n1 e1, (.slice (some ⟨g, 0, none⟩) nn cap'), .int .i64 0, .int .i64 0] 53 ∧ OwnZ w9 (w.heap.size + 1) (.slice a1 n1 e1) zs ∧ OwnC w9 (q + 1) ((.slice (some ⟨g, 0, none⟩) nn cap')) (acc ++ [(⟨ag, mh, ml, cm, vh, vl⟩ : CN)])) := ⟨r9, gb_trans X8.out.2.1 g9, X8.out.2.2.1.gb hqp.out.2.1 g9, X8.out.2.2.2.1.gb hqp.out.1 g9, own_gb X8.out.2.2.2.2.1 hqp.out.2.2.2.2.1 g9, own_gb X8.out.2.2.2.2.2 hqp.out.2.2.2.2.2.1 g9⟩
            clear r9 g9 X8 HT
            go_wp2
            go_roundw
            case rel => exact ⟨_, some (j + 1), f - 1, _, HO2.out.1, (fun k hk => by injection hk with hk; subst hk; exact ⟨HO2.out.2.1, HO2.out.2.2.1⟩), X9.out⟩
            case measure =>
              have h1 := X9.out.1.left
              have h2 := HO2.out.2.2.2
              rw [h1, h2.1]
              simp only [stLeft]
              omega
        case hIA => trivial
        case hGA => intros; trivial
        case hBA => intro b ch w10 _ hD; exact hD.elim
        case hAA => kernel_rfl
        case hlA => exact ⟨trivial, trivial, trivial, fun i hi vv W W' h hT => h, fun i hi vv W W' ⟨h, e2, e4, e5⟩ hT => ⟨h, e2, e4, by by_cases h5 : i = 5; exact e5.row (hT.1 h5) (fun e => by have := (X7.out.2.2.2.2.1 _ e).2; omega); exact e5.row (hT.2 h5) (fun e => by have := X7.out.2.2.2.2.2.2; injection e with e; omega)⟩, fun i hi vv W W' ⟨g, cap', e2, e3⟩ hT => ⟨g, cap', e2, own_gb e3 hqp.out.2.2.2.2.2.1 (hT.2 hi)⟩, trivial, trivial⟩

end Go.Proofs.YtojaohdmfahpmaaGreatDoor
