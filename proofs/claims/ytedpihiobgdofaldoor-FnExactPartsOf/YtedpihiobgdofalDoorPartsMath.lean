/- Plain facts on the parts of a line: the library's fields of a line of bytes in 32 .. 126 are what the specification's loop gathers. -/
import Derived.Test.YtedpihiobgdofalDoorDecMath
import Derived.Lib.Fields
import Derived.Lib.Strings
namespace Go.Proofs.YtedpihiobgdofalDoor
open Go.RowKit

def strsV (ps : List (List UInt8)) : List Value := ps.map fun l => .string ⟨l.toArray⟩

theorem strsV_length (ps : List (List UInt8)) : (strsV ps).length = ps.length := by simp [strsV]
theorem strsV_snoc (ps : List (List UInt8)) (l : List UInt8) : strsV ps ++ [.string ⟨l.toArray⟩] = strsV (ps ++ [l]) := by simp [strsV]

def okB (b : UInt8) : Bool := decide (32 ≤ b.toNat) && decide (b.toNat ≤ 126)

theorem ne_byte (b k : UInt8) (h : k.toNat < b.toNat) : (b == k) = false := by
  rw [beq_eq_false_iff_ne]; intro e; subst e; omega

theorem sp_ok (b : UInt8) (h1 : 32 ≤ b.toNat) : Lib.isSp b = decide (b.toNat = 32) := by
  unfold Lib.isSp
  rw [ne_byte b 9 (by show 9 < b.toNat; omega), ne_byte b 10 (by show 10 < b.toNat; omega), ne_byte b 11 (by show 11 < b.toNat; omega), ne_byte b 12 (by show 12 < b.toNat; omega), ne_byte b 13 (by show 13 < b.toNat; omega)]
  by_cases h : b.toNat = 32
  · obtain rfl : b = 32 := UInt8.toNat_inj.1 (by simpa using h)
    rfl
  · have : (b == 32) = false := by
      rw [beq_eq_false_iff_ne]; intro e; apply h; rw [e]; rfl
    rw [this]
    simp [h]

def PO (l : List UInt8) : Option (List (List UInt8)) :=
  if 600 < l.length then none
  else if l.all okB then (if (Lib.fields l).length ≤ 10 then some (Lib.fields l) else none)
  else none

theorem PO_long (l : List UInt8) (h : 600 < l.length) : PO l = none := by unfold PO; rw [if_pos h]
theorem PO_bad (l : List UInt8) (j : Nat) (hj : j < l.length) (h : okB l[j] = false) : PO l = none := by
  unfold PO
  have : l.all okB = false := by
    rw [List.all_eq_false]
    exact ⟨l[j], List.getElem_mem hj, by simp [h]⟩
  simp [this]
theorem PO_many (l : List UInt8) (h : 10 < (Lib.fields l).length) : PO l = none := by
  unfold PO
  have : ¬ (Lib.fields l).length ≤ 10 := by omega
  simp [this]
theorem PO_some (l : List UInt8) (hl : l.length ≤ 600) (hk : ∀ j (hj : j < l.length), okB l[j] = true) (hn : (Lib.fields l).length ≤ 10) : PO l = some (Lib.fields l) := by
  unfold PO
  have h1 : ¬ 600 < l.length := by omega
  have h2 : l.all okB = true := by
    rw [List.all_eq_true]
    intro x hx
    obtain ⟨j, hj, rfl⟩ := List.getElem_of_mem hx
    exact hk j hj
  simp [h1, h2, hn]

def cur (l : List UInt8) (b i : Nat) : List UInt8 := (l.drop b).take (i - b)

theorem cur_length (l : List UInt8) (b i : Nat) (h : i ≤ l.length) : (cur l b i).length = i - b := by
  unfold cur; simp; omega
theorem cur_empty (l : List UInt8) (b : Nat) : cur l b b = [] := by unfold cur; simp
theorem cur_snoc (l : List UInt8) (b i : Nat) (hb : b ≤ i) (h : i < l.length) : cur l b (i + 1) = cur l b i ++ [l[i]] := by
  unfold cur
  rw [show i + 1 - b = (i - b) + 1 by omega, List.take_succ_eq_append_getElem (by simp; omega)]
  congr 2
  simp only [List.getElem_drop]
  congr 1
  omega

/-- The loop's state: all bytes ahead of i are right; the parts out are gathered, the one that begins at b is on its way. -/
def PS (l : List UInt8) (i b : Nat) (out : List (List UInt8)) : Prop :=
  (∀ j (hj : j < l.length), j < i → okB l[j] = true) ∧ out.length ≤ i ∧
  ((i ≤ l.length ∧ b ≤ i ∧ Lib.fields l = out ++ Lib.fieldsGo (cur l b i) (l.drop i)) ∨ (i = l.length + 1 ∧ Lib.fields l = out))

theorem PS.start (l : List UInt8) : PS l 0 0 [] := ⟨fun _ _ h => by omega, by simp, .inl ⟨by omega, by omega, by rw [cur_empty]; simp [Lib.fields]⟩⟩

theorem PS.seen {l : List UInt8} {i b : Nat} {out : List (List UInt8)} (h : PS l i b out) (hi : i < l.length) (hk : okB l[i] = true) : ∀ j (hj : j < l.length), j < i + 1 → okB l[j] = true := by
  intro j hj hlt
  by_cases e : j = i
  · subst e; exact hk
  · exact h.1 j hj (by omega)

theorem PS.mid {l : List UInt8} {i b : Nat} {out : List (List UInt8)} (h : PS l i b out) (hi : i ≤ l.length) : b ≤ i ∧ Lib.fields l = out ++ Lib.fieldsGo (cur l b i) (l.drop i) := by
  rcases h.2.2 with h | h
  · exact ⟨h.2.1, h.2.2⟩
  · omega

theorem ok_nat {b : UInt8} (h : okB b = true) : 32 ≤ b.toNat := by
  unfold okB at h; simp at h; exact h.1

theorem PS.more {l : List UInt8} {i b : Nat} {out : List (List UInt8)} (h : PS l i b out) (hi : i < l.length) (hk : okB l[i] = true) (hne : ¬ l[i].toNat = 32) : PS l (i + 1) b out := by
  obtain ⟨hb, e⟩ := h.mid (by omega)
  refine ⟨h.seen hi hk, by have := h.2.1; omega, .inl ⟨by omega, by omega, ?_⟩⟩
  rw [e, List.drop_eq_getElem_cons hi, Lib.fieldsGo_more _ _ _ (by rw [sp_ok _ (ok_nat hk)]; simp [hne]), cur_snoc l b i hb hi]

theorem PS.blank {l : List UInt8} {i b : Nat} {out : List (List UInt8)} (h : PS l i b out) (hi : i < l.length) (hk : okB l[i] = true) (he : l[i].toNat = 32) (hb : ¬ b < i) : PS l (i + 1) (i + 1) out := by
  obtain ⟨hb', e⟩ := h.mid (by omega)
  obtain rfl : b = i := by omega
  refine ⟨h.seen hi hk, by have := h.2.1; omega, .inl ⟨by omega, by omega, ?_⟩⟩
  rw [e, List.drop_eq_getElem_cons hi, cur_empty, Lib.fieldsGo_sp _ _ (by rw [sp_ok _ (ok_nat hk)]; simp [he]), cur_empty]

theorem cur_ne (l : List UInt8) (b i : Nat) (hb : b < i) (hi : i ≤ l.length) : cur l b i ≠ [] := by
  intro e
  have := cur_length l b i hi
  rw [e] at this
  simp at this
  omega

theorem PS.part {l : List UInt8} {i b : Nat} {out : List (List UInt8)} (h : PS l i b out) (hi : i < l.length) (hk : okB l[i] = true) (he : l[i].toNat = 32) (hb : b < i) : PS l (i + 1) (i + 1) (out ++ [cur l b i]) := by
  obtain ⟨hb', e⟩ := h.mid (by omega)
  refine ⟨h.seen hi hk, by have := h.2.1; simp; omega, .inl ⟨by omega, by omega, ?_⟩⟩
  rw [e, List.drop_eq_getElem_cons hi, Lib.fieldsGo_end _ _ _ (by rw [sp_ok _ (ok_nat hk)]; simp [he]) (cur_ne l b i hb (by omega)), cur_empty]
  simp

theorem PS.endPart {l : List UInt8} {i b : Nat} {out : List (List UInt8)} (h : PS l i b out) (hi : i = l.length) (hb : b < i) : PS l (i + 1) (i + 1) (out ++ [cur l b i]) := by
  obtain ⟨hb', e⟩ := h.mid (by omega)
  refine ⟨fun j hj _ => h.1 j hj (by omega), by have := h.2.1; simp; omega, .inr ⟨by omega, ?_⟩⟩
  rw [e, List.drop_eq_nil_of_le (by omega)]
  have := cur_ne l b i hb (by omega)
  cases hc : cur l b i with
  | nil => exact absurd hc this
  | cons x r => simp [Lib.fieldsGo]

theorem PS.endNone {l : List UInt8} {i b : Nat} {out : List (List UInt8)} (h : PS l i b out) (hi : i = l.length) (hb : ¬ b < i) : PS l (i + 1) (i + 1) out := by
  obtain ⟨hb', e⟩ := h.mid (by omega)
  obtain rfl : b = i := by omega
  refine ⟨fun j hj _ => h.1 j hj (by omega), by have := h.2.1; omega, .inr ⟨by omega, ?_⟩⟩
  rw [e, List.drop_eq_nil_of_le (by omega), cur_empty]
  simp [Lib.fieldsGo]

theorem PS.done {l : List UInt8} {i b : Nat} {out : List (List UInt8)} (h : PS l i b out) (hi : ¬ i ≤ l.length) : Lib.fields l = out ∧ ∀ j (hj : j < l.length), okB l[j] = true := by
  rcases h.2.2 with h' | h'
  · omega
  · exact ⟨h'.2, fun j hj => h.1 j hj (by omega)⟩

theorem extract_cur (s : ByteArray) (b i : Nat) : s.extract b i = ⟨(cur s.data.toList b i).toArray⟩ := by
  apply ByteArray.ext
  apply Array.toList_inj.1
  rw [Lib.extract_data]
  simp [cur]

/-- What is answered: the parts (none beside a false), and whether. -/
def partsL (o : Option (List (List UInt8))) : List (List UInt8) := match o with
  | none => []
  | some l => l

end Go.Proofs.YtedpihiobgdofalDoor
