/- Rules whose memory lies in blocks of one's choice; rows of rules as append leaves them. -/
import Derived.Test.YtoknlaaghjlnaaaRuleN
namespace Go.Proofs.Ytoknlaaghjlnaaa
open Go.RowKit
set_option linter.unusedVariables false

def FromP (φ : Nat → Prop) (w : World) (a : Option Addr) : Prop := ∀ b o s, a = some ⟨b, o, s⟩ → φ b ∧ b < w.heap.size

theorem FromP.size {φ : Nat → Prop} {w w' : World} {a : Option Addr} (h : FromP φ w a) (hs : w.heap.size ≤ w'.heap.size) : FromP φ w' a := fun b o s e => ⟨(h b o s e).1, by have := (h b o s e).2; omega⟩

theorem FromP.imp {φ ψ : Nat → Prop} {w : World} {a : Option Addr} (h : FromP φ w a) (hi : ∀ b, φ b → b < w.heap.size → ψ b) : FromP ψ w a := fun b o s e => ⟨hi b (h b o s e).1 (h b o s e).2, (h b o s e).2⟩

/-- The four cells of a rule whose memory, where it has any, lies in blocks of φ. -/
def RuleP (φ : Nat → Prop) (w : World) (r : RN) (l : List Value) : Prop :=
  ∃ a1 n1 c1 a2 n2 c2, l = [.slice a1 n1 c1, .slice a2 n2 c2, .int .i64 r.act, .int .i64 r.data] ∧ n1 = r.nums.length ∧ n2 = r.conds.length ∧ Nums w a1 r.nums ∧ Conds w a2 r.conds ∧ FromP φ w a1 ∧ FromP φ w a2

theorem RuleN.p {B : Nat} {w : World} {r : RN} {l : List Value} (h : RuleN B w r l) : RuleP (fun b => B ≤ b) w r l := h

theorem RuleP.rule {φ : Nat → Prop} {w : World} {r : RN} {l : List Value} (h : RuleP φ w r l) : RuleL w r l := by
  obtain ⟨a1, n1, c1, a2, n2, c2, e, e1, e2, h1, h2, _⟩ := h
  exact ⟨a1, n1, c1, a2, n2, c2, e, e1, e2, h1, h2⟩

theorem RuleP.four {φ : Nat → Prop} {w : World} {r : RN} {l : List Value} (h : RuleP φ w r l) : l.length = 4 := by
  obtain ⟨a1, n1, c1, a2, n2, c2, rfl, _⟩ := h
  rfl

theorem RuleP.imp {φ ψ : Nat → Prop} {w : World} {r : RN} {l : List Value} (h : RuleP φ w r l) (hi : ∀ b, φ b → b < w.heap.size → ψ b) : RuleP ψ w r l := by
  obtain ⟨a1, n1, c1, a2, n2, c2, e, e1, e2, h1, h2, f1, f2⟩ := h
  exact ⟨a1, n1, c1, a2, n2, c2, e, e1, e2, h1, h2, f1.imp hi, f2.imp hi⟩

theorem RuleP.kept {φ : Nat → Prop} {w w' : World} {r : RN} {l : List Value} (h : RuleP φ w r l) (hb : ∀ b, φ b → b < w.heap.size → w'.heap[b]? = w.heap[b]?) (hs : w.heap.size ≤ w'.heap.size) : RuleP φ w' r l := by
  obtain ⟨a1, n1, c1, a2, n2, c2, e, e1, e2, h1, h2, f1, f2⟩ := h
  exact ⟨a1, n1, c1, a2, n2, c2, e, e1, e2, h1.kept (fun b o he => hb b (f1 b o none he).1 (f1 b o none he).2) hs, h2.kept (fun b o he => hb b (f2 b o none he).1 (f2 b o none he).2) hs, f1.size hs, f2.size hs⟩

/-- Rules and their cells, in memory of φ. -/
def RowR (φ : Nat → Prop) (w : World) (ps : List (RN × List Value)) : Prop := ∀ q ∈ ps, RuleP φ w q.1 q.2

theorem RowR.kept {φ : Nat → Prop} {w w' : World} {ps : List (RN × List Value)} (h : RowR φ w ps) (hb : ∀ b, φ b → b < w.heap.size → w'.heap[b]? = w.heap[b]?) (hs : w.heap.size ≤ w'.heap.size) : RowR φ w' ps := fun q hq => (h q hq).kept hb hs

theorem RowR.grown {φ : Nat → Prop} {w w' : World} {ps : List (RN × List Value)} {row : Option Nat} (h : RowR φ w ps) (hg : w.grownBy w' row) (hr : ∀ b, φ b → b < w.heap.size → some b ≠ row) : RowR φ w' ps := h.kept (fun b h1 h2 => hg.block b h2 (hr b h1 h2)) hg.size

theorem RowR.imp {φ ψ : Nat → Prop} {w : World} {ps : List (RN × List Value)} (h : RowR φ w ps) (hi : ∀ b, φ b → b < w.heap.size → ψ b) : RowR ψ w ps := fun q hq => (h q hq).imp hi

theorem RowR.set {φ : Nat → Prop} {w : World} {ps : List (RN × List Value)} (h : RowR φ w ps) {k : Nat} (hk : ∀ b, φ b → b ≠ k) (i : Nat) (v : Value) : RowR φ (w.setCell ⟨k, i, none⟩ v) ps :=
  h.kept (fun b h1 _ => Below.heap_setCell _ _ _ _ (hk b h1)) (by rw [World.size_setCell]; exact Nat.le_refl _)

theorem RowR.push {φ : Nat → Prop} {w : World} {ps : List (RN × List Value)} (h : RowR φ w ps) {r : RN} {l : List Value} (hr : RuleP φ w r l) : RowR φ w (ps ++ [(r, l)]) := fun q hq => by
  rcases List.mem_append.1 hq with hq | hq
  · exact h q hq
  · simp at hq; rw [hq]; exact hr

def flatR (ps : List (RN × List Value)) : List Value := ps.flatMap fun q => q.2

theorem flatR_push (ps : List (RN × List Value)) (r : RN) (l : List Value) : flatR ps ++ l = flatR (ps ++ [(r, l)]) := by simp [flatR]

theorem flatR_at : ∀ (ps : List (RN × List Value)) (j i : Nat) (v : Value) (h : j < ps.length), (∀ q ∈ ps, q.2.length = 4) → (ps[j]).2[i]? = some v → (flatR ps)[j * 4 + i]? = some v
  | [], j, _, _, h, _, _ => by simp at h
  | q :: ps, 0, i, v, _, hl, hv => by
    have hi : i < q.2.length := (List.getElem?_eq_some_iff.1 hv).1
    simp only [flatR, List.flatMap_cons]
    rw [Nat.zero_mul, Nat.zero_add, List.getElem?_append_left hi]
    exact hv
  | q :: ps, j + 1, i, v, h, hl, hv => by
    have := flatR_at ps j i v (by simpa using h) (fun q hq => hl q (by simp [hq])) (by simpa using hv)
    have h4 : q.2.length = 4 := hl q (by simp)
    simp only [flatR, List.flatMap_cons]
    rw [List.getElem?_append_right (by omega)]
    have e : (j + 1) * 4 + i - q.2.length = j * 4 + i := by omega
    rw [e]
    exact this

def rulesOf (ps : List (RN × List Value)) : List RN := ps.map fun q => q.1

theorem rulesOf_at (ps : List (RN × List Value)) (j : Nat) (h : j < ps.length) : (rulesOf ps).getD j r0 = (ps[j]).1 := by
  simp [rulesOf, List.getD_eq_getElem?_getD, h]

/-- A slice of rules all whose memory lies in blocks of φ. -/
def RulesP (φ : Nat → Prop) (w : World) (a : Option Addr) (rs : List RN) : Prop :=
  FromP φ w a ∧ (0 < rs.length → ∃ b off, a = some ⟨b, off, none⟩ ∧ ∀ j, j < rs.length → ∃ l, Seg w b (off + j * 4) l ∧ RuleP φ w (rs.getD j r0) l)

theorem RulesP.rules {φ : Nat → Prop} {w : World} {a : Option Addr} {rs : List RN} (h : RulesP φ w a rs) : Rules w a rs := fun hp => by
  obtain ⟨b, off, ha, hc⟩ := h.2 hp
  refine ⟨b, off, ha, (h.1 b off none ha).2, fun j hj => ?_⟩
  obtain ⟨l, h1, h2⟩ := hc j hj
  exact ⟨l, h1, h2.rule⟩

theorem Seg.kept {W W' : World} {b o : Nat} {l : List Value} (h : Seg W b o l) (hb : W'.heap[b]? = W.heap[b]?) : Seg W' b o l := fun i v hv => (World.cell?_of_block (w := W) (a := ⟨b, o + i, none⟩) hb).trans (h i v hv)

theorem RulesP.kept {φ : Nat → Prop} {w w' : World} {a : Option Addr} {rs : List RN} (h : RulesP φ w a rs) (hb : ∀ b, φ b → b < w.heap.size → w'.heap[b]? = w.heap[b]?) (hs : w.heap.size ≤ w'.heap.size) : RulesP φ w' a rs :=
  ⟨h.1.size hs, fun hp => by
    obtain ⟨b, off, ha, hc⟩ := h.2 hp
    refine ⟨b, off, ha, fun j hj => ?_⟩
    obtain ⟨l, h1, h2⟩ := hc j hj
    exact ⟨l, h1.kept (hb b (h.1 b off none ha).1 (h.1 b off none ha).2), h2.kept hb hs⟩⟩

theorem RulesP.imp {φ ψ : Nat → Prop} {w : World} {a : Option Addr} {rs : List RN} (h : RulesP φ w a rs) (hi : ∀ b, φ b → b < w.heap.size → ψ b) : RulesP ψ w a rs :=
  ⟨h.1.imp hi, fun hp => by
    obtain ⟨b, off, ha, hc⟩ := h.2 hp
    refine ⟨b, off, ha, fun j hj => ?_⟩
    obtain ⟨l, h1, h2⟩ := hc j hj
    exact ⟨l, h1, h2.imp hi⟩⟩

theorem RulesP.set {φ : Nat → Prop} {w : World} {a : Option Addr} {rs : List RN} (h : RulesP φ w a rs) {k : Nat} (hk : ∀ b, φ b → b ≠ k) (i : Nat) (v : Value) : RulesP φ (w.setCell ⟨k, i, none⟩ v) a rs :=
  h.kept (fun b h1 _ => Below.heap_setCell _ _ _ _ (hk b h1)) (by rw [World.size_setCell]; exact Nat.le_refl _)

theorem own_rules {φ : Nat → Prop} {w : World} {base n : Nat} {v : Value} {ps : List (RN × List Value)} (h : w.ownsRow base 37 4 v n (flatR ps)) (hn : ps.length = n) (hr : RowR φ w ps) (hφ : ∀ b, base ≤ b → φ b) : ∃ a cap, v = .slice a n cap ∧ RulesP φ w a (rulesOf ps) := by
  rcases h.2 with ⟨rfl, h0⟩ | ⟨g, cap, cur, rfl, hg, hh, hnc, hcp, hcs, htake⟩
  · subst h0
    refine ⟨none, 0, rfl, ⟨fun b o s e => (by cases e), fun hp => ?_⟩⟩
    simp [rulesOf] at hp
    rw [List.length_eq_zero_iff.1 hn] at hp
    exact absurd hp (by simp)
  · have hlt := (Array.getElem?_eq_some_iff.1 hh).1
    refine ⟨some ⟨g, 0, none⟩, cap, rfl, fun b o s e => by injection e with e; injection e with e1 e2 e3; subst e1; exact ⟨hφ _ hg, hlt⟩, fun hp => ⟨g, 0, rfl, fun j hj => ?_⟩⟩
    have hj' : j < ps.length := by simpa [rulesOf] using hj
    have hq := hr (ps[j]) (List.getElem_mem hj')
    refine ⟨(ps[j]).2, fun i u hu => ?_, by rw [rulesOf_at ps j hj']; exact hq⟩
    have hi : i < 4 := by have h3 := (List.getElem?_eq_some_iff.1 hu).1; have := hq.four; omega
    have e1 := flatR_at ps j i u hj' (fun q hq => (hr q hq).four) hu
    rw [← htake, List.getElem?_take, if_pos (by omega)] at e1
    rw [Nat.zero_add, cell_of_row w g _ cur 37 _ hh]
    simpa using e1

end Go.Proofs.Ytoknlaaghjlnaaa
