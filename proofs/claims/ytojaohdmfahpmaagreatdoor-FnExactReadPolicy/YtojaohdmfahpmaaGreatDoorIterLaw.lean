/- A range over a text, round by round, whatever else memory has got. -/
import Derived.Test.YtojaohdmfahpmaaGreatDoorSignTwo
import Derived.Laws.RangeAny
import Derived.Maps.Own
namespace Go.Proofs.YtojaohdmfahpmaaGreatDoor
open Go.RowKit
set_option linter.unusedVariables false

def setIter (w : World) (k : Nat) (s : ByteArray) (p : Nat) : World := { w with heap := w.heap.setIfInBounds k (.stringIter s p) }

theorem setIter_heap {w : World} {k : Nat} (hk : k < w.heap.size) (s : ByteArray) (p : Nat) : (setIter w k s p).heap[k]? = some (.stringIter s p) := by
  unfold setIter
  simp [hk]

theorem setIter_grown (w : World) (k : Nat) (s : ByteArray) (p : Nat) : w.grownBy (setIter w k s p) (some k) :=
  ⟨rfl, rfl, rfl, by unfold setIter; simp, fun i hi hne => by unfold setIter; simp only [Array.getElem?_setIfInBounds]; rw [if_neg (fun e => hne (by rw [e]))]⟩

theorem run_next_on {P : Program} (w : World) (k : Nat) (s : ByteArray) (pos : Nat) (ty : TypeId) (hk : w.heap[k]? = some (.stringIter s pos)) (h : pos < s.size) :
    (Instr.next (.pointer (some ⟨k, 0, none⟩)) true ty).run P w = .ok (.tuple #[.bool true, .int .i64 pos, .int .i32 (Utf8.decode s pos).1]) (setIter w k s (pos + (Utf8.decode s pos).2)) := by
  simp only [Instr.next, getObj, setObj, Sem.run_bind, Sem.run, hk, Result.andThen, h, if_true]
  simp [goInt, setIter]

theorem run_next_off {P : Program} (w : World) (k : Nat) (s : ByteArray) (pos : Nat) (ty : TypeId) (hk : w.heap[k]? = some (.stringIter s pos)) (h : ¬ pos < s.size) :
    (Instr.next (.pointer (some ⟨k, 0, none⟩)) true ty).run P w = .ok (.tuple #[.bool false]) w := by
  simp [Instr.next, getObj, Sem.run, hk, h]

theorem wpList_next_on {P : Program} (w : World) {ops : Array Oper} {rest : List Oper} {o : Oper} {a : Act} {Q : Exit → Act → World → Prop}
    (hg : o.guard = none) (x : Operand) (hop : o.op = Op.next x true) (k pos : Nat) (s : ByteArray) (hx : a.eval x = .pointer (some ⟨k, 0, none⟩)) (hk : w.heap[k]? = some (.stringIter s pos)) (h : pos < s.size)
    (hK : ∀ w', w'.heap[k]? = some (.stringIter s (pos + (Utf8.decode s pos).2)) → w.grownBy w' (some k) → wpList P ops Q rest (a.put o.dst (.tuple #[.bool true, .int .i64 pos, .int .i32 (Utf8.decode s pos).1])) w') :
    wpList P ops Q (o :: rest) a w := by
  refine wpList_plain hg fun K' hK' => ?_
  have hrun := run_next_on (P := P) w k s pos o.type hk h
  unfold Oper.wp
  simp [execOp, hop, hx, hrun, Result.andThen]
  exact hK' _ _ (hK _ (setIter_heap (Array.getElem?_eq_some_iff.1 hk).1 _ _) (setIter_grown _ _ _ _))

theorem wpList_next_off {P : Program} (w : World) {ops : Array Oper} {rest : List Oper} {o : Oper} {a : Act} {Q : Exit → Act → World → Prop}
    (hg : o.guard = none) (x : Operand) (hop : o.op = Op.next x true) (k pos : Nat) (s : ByteArray) (hx : a.eval x = .pointer (some ⟨k, 0, none⟩)) (hk : w.heap[k]? = some (.stringIter s pos)) (h : ¬ pos < s.size)
    (hK : wpList P ops Q rest (a.put o.dst (.tuple #[.bool false])) w) :
    wpList P ops Q (o :: rest) a w := by
  refine wpList_plain hg fun K' hK' => ?_
  have hrun := run_next_off (P := P) w k s pos o.type hk h
  unfold Oper.wp
  simp [execOp, hop, hx, hrun, Result.andThen]
  exact hK' _ _ hK

/-- The cells of pieces in a row. -/
def flatP (ps : List (Nat × List UInt8)) : List Value := ps.flatMap fun p => [.int .i64 (p.1 : Int), .string (txt p.2)]

theorem flatP_push (ps : List (Nat × List UInt8)) (k : Nat) (t : List UInt8) : flatP ps ++ [.int .i64 (k : Int), .string (txt t)] = flatP (ps ++ [(k, t)]) := by simp [flatP]

theorem flatP_at : ∀ (ps : List (Nat × List UInt8)) (j : Nat), j < ps.length → (flatP ps)[j * 2]? = some (.int .i64 ((ps.getD j (0, [])).1 : Int)) ∧ (flatP ps)[j * 2 + 1]? = some (.string (txt (ps.getD j (0, [])).2))
  | p :: ps, 0, _ => by simp [flatP]
  | p :: ps, j + 1, h => by
    have ih := flatP_at ps j (by simpa using h)
    have e : ∀ i, (flatP (p :: ps))[(j + 1) * 2 + i]? = (flatP ps)[j * 2 + i]? := fun i => by
      have hf : flatP (p :: ps) = [.int .i64 (p.1 : Int), .string (txt p.2)] ++ flatP ps := by simp [flatP]
      rw [hf, List.getElem?_append_right (by simp; omega)]
      congr 1
      simp
      omega
    rw [e 1, ← Nat.add_zero ((j + 1) * 2), e 0]
    exact ih

theorem Tryz.infoP : (Tryz.prog.info? 96).map (fun i => (i.zero, i.size, i.bytes)) = some (some (.agg #[.int .i64 0, .string ⟨#[]⟩]), 2, 24) := by kernel_rfl

theorem cutB (s : ByteArray) (f a : Nat) : s.extract f a = txt (cutL s.data.toList f a) := by
  apply ByteArray.ext
  apply Array.toList_inj.1
  simp [cutL, txt, ByteArray.data_extract]

theorem width_pos (s : ByteArray) (pos : Nat) (h : pos < s.size) : 1 ≤ (Utf8.decode s pos).2 := by
  by_cases ha : (s[pos]'h).toNat < 128
  · rw [decode_ascii s pos h ha]
    exact Nat.le_refl _
  · exact (decode_high s pos h (by omega)).2

theorem enc_low {r : Nat} (h : r < 128) : (Utf8.encode (r : Int)).data.toList = [UInt8.ofNat r] := by
  have hv : Utf8.valid (r : Int) = true := by unfold Utf8.valid; simp; omega
  unfold Utf8.encode
  simp only [hv, if_true]
  rw [if_pos (by omega)]
  simp

theorem enc_size (r : Int) : (Utf8.encode r).size ≤ 4 := by
  obtain ⟨c, hc⟩ : ∃ c : Nat, c = (if Utf8.valid r = true then r.toNat else Utf8.runeError) := ⟨_, rfl⟩
  unfold Utf8.encode
  simp only [← hc]
  split
  · show 1 ≤ 4; omega
  · split
    · show 2 ≤ 4; omega
    · split
      · show 3 ≤ 4; omega
      · show 4 ≤ 4; omega

theorem enc_high {r : Int} (h : 128 ≤ r) : ∃ b c t, (Utf8.encode r).data.toList = b :: c :: t ∧ 128 ≤ b.toNat := by
  obtain ⟨c, hc, hcl⟩ : ∃ c : Nat, c = (if Utf8.valid r = true then r.toNat else Utf8.runeError) ∧ 128 ≤ c ∧ c < 1114112 := by
    refine ⟨_, rfl, ?_⟩
    by_cases hv : Utf8.valid r = true
    · rw [if_pos hv]
      unfold Utf8.valid at hv
      simp at hv
      omega
    · rw [if_neg hv]
      decide
  unfold Utf8.encode
  simp only [← hc]
  rw [if_neg (by omega)]
  split
  · exact ⟨_, _, _, rfl, by simp; omega⟩
  · split
    · exact ⟨_, _, _, rfl, by simp; omega⟩
    · exact ⟨_, _, _, rfl, by simp; omega⟩

end Go.Proofs.YtojaohdmfahpmaaGreatDoor
