/- A slice of bytes of the call's own that may still lie in the row which '[]byte(s)' made (that row bears a mark behind its last cell): one byte more. -/
import Derived.Test.YtfbdbeaijkhbfaaDoorInfoB
import Derived.ArgAppend
import Derived.Below
import Derived.Lib.ConvBytes
import Derived.Laws.CopyOwn
import Derived.Deep.Onto
namespace Go.Proofs.YtfbdbeaijkhbfaaDoor
open Go.RowKit
set_option linter.unusedVariables false

/-- v holds the bytes l in a row of the call's own, marked behind its cells or not. -/
def ownsQ (w : World) (base : Nat) (v : Value) (l : List UInt8) : Prop :=
  w.ownsRow base 5 1 v l.length (bytesV l) ∨
  ∃ g cap cur fz, v = .slice (some ⟨g, 0, none⟩) l.length cap ∧ base ≤ g ∧ w.heap[g]? = some (.cells cur 5 fz) ∧ cur.size ≤ fz.1 ∧ l.length ≤ cap ∧ cur.size = cap ∧ cur.toList.take l.length = bytesV l

theorem ownsQ.cellAt {w : World} {base g o cap : Nat} {l : List UInt8} (h : ownsQ w base (.slice (some ⟨g, o, none⟩) l.length cap) l) : o = 0 ∧ ∀ j (hj : j < l.length), w.cell? ⟨g, j, none⟩ = some (.int .u8 ((l[j]'hj).toNat : Int)) := by
  rcases h with h | ⟨g', cap', cur, fz, hv, _, hh, _, _, _, ht⟩
  · rcases h.2 with ⟨hn, _⟩ | ⟨g', cap', cur, hv, _, hh, _, _, _, ht⟩
    · cases hn
    · obtain ⟨⟨rfl, rfl, _⟩, rfl⟩ : ((g = g' ∧ o = 0 ∧ True) ∧ cap = cap') := by injection hv with h1 h2 h3; injection h1 with h1; injection h1 with a b c; exact ⟨⟨a, b, trivial⟩, h3⟩
      refine ⟨rfl, fun j hj => ?_⟩
      rw [cell_of_row w _ j cur 5 (0, 0) hh]
      have : (bytesV l)[j]? = some (.int .u8 ((l[j]'hj).toNat : Int)) := by simp [bytesV, hj]
      rw [← ht, List.getElem?_take] at this
      simpa [hj] using this
  · obtain ⟨⟨rfl, rfl, _⟩, rfl⟩ : ((g = g' ∧ o = 0 ∧ True) ∧ cap = cap') := by injection hv with h1 h2 h3; injection h1 with h1; injection h1 with a b c; exact ⟨⟨a, b, trivial⟩, h3⟩
    refine ⟨rfl, fun j hj => ?_⟩
    rw [cell_of_row w _ j cur 5 fz hh]
    have : (bytesV l)[j]? = some (.int .u8 ((l[j]'hj).toNat : Int)) := by simp [bytesV, hj]
    rw [← ht, List.getElem?_take] at this
    simpa [hj] using this

theorem ownsQ.convert {w : World} {base : Nat} {v : Value} {l : List UInt8} (h : ownsQ w base v l) : (convert 22 9 v).run Tryd.prog w = .ok (.string ⟨l.toArray⟩) w := by
  rcases h with h | ⟨g, cap, cur, fz, rfl, hg, hh, h1, h2, h3, h4⟩
  · exact own_convert (P := Tryd.prog) h Tryd.underlying22 Tryd.underlying5 Tryd.underlying9
  · have hq : ownsQ w base (.slice (some ⟨g, 0, none⟩) l.length cap) l := .inr ⟨g, cap, cur, fz, rfl, hg, hh, h1, h2, h3, h4⟩
    refine run_convert_bytes_back w 22 9 5 ⟨g, 0, none⟩ cap l Tryd.underlying22 Tryd.underlying5 Tryd.underlying9 (fun j hj => ?_)
    rw [Addr.add_lit, Nat.zero_add]
    exact hq.cellAt.2 j hj

theorem ownsQ.alloc {w : World} {base : Nat} {v : Value} {l : List UInt8} (h : ownsQ w base v l) (o : Obj) : ownsQ (w.alloc o) base v l := by
  rcases h with h | ⟨g, cap, cur, fz, rfl, hg, hh, rest⟩
  · exact .inl (h.alloc o)
  · exact .inr ⟨g, cap, cur, fz, rfl, hg, (Below.heap_alloc w o g (Array.getElem?_eq_some_iff.1 hh).1).trans hh, rest⟩

theorem ownsQ.lt {w : World} {base : Nat} {v : Value} {l : List UInt8} (h : ownsQ w base v l) : ∀ k, v.ownBlock = some k → base ≤ k := by
  intro k hk
  rcases h with h | ⟨g, cap, cur, fz, rfl, hg, hh, rest⟩
  · exact (h.lt k hk).1
  · simp [Value.ownBlock] at hk
    omega

/-- '[]byte(s)': owned so. -/
theorem ownsQ_conv (s : ByteArray) (w : World) : ∃ v w', (_root_.Go.convert 9 22 (.string s)).run Tryd.prog w = .ok v w' ∧ ownsQ w' w.heap.size v s.data.toList ∧ Below w.heap.size w w' := by
  have hl : s.data.toList.length = s.size := rfl
  have hge : s.size ≤ grownCap w s.size 0 5 := grownCap_ge _ _ _ _
  refine ⟨_, _, Lib.run_convert_string_bytes w 9 22 5 s Tryd.underlying9 Tryd.underlying22 Tryd.underlying5, .inr ⟨w.heap.size, _, _, _, rfl, Nat.le_refl _, Lib.bytesWorld_at_new w 5 s, Nat.le_refl _, hge, ?_, ?_⟩, ⟨rfl, rfl, rfl, by rw [Lib.bytesWorld_size]; omega, fun k hk => Lib.bytesWorld_at_old w 5 s k hk⟩⟩
  · simp [Lib.bytesCells]
    have : s.data.size = s.size := rfl
    omega
  · simp only [Lib.bytesCells, Array.toList_append, Array.toList_map]
    rw [List.take_append_of_le_length (by simp), List.take_of_length_le (by simp)]
    rfl

theorem run_append_Q (w : World) (base ty : Nat) (v : Value) (l : List UInt8) (b : UInt8) (x : Int) (hx : x = (b.toNat : Int)) (h : ownsQ w base v l) (a : Addr) (c : Nat) (ha : w.cell? a = some (.int .u8 x)) (h63 : l.length + 1 ≤ 100000000) (hbase : base ≤ w.heap.size) :
    ∃ v' w', (Builtin.append_ #[22, 22] ty #[v, .slice (some a) 1 c]).run Tryd.prog w = .ok v' w' ∧ ownsQ w' base v' (l ++ [b]) ∧ w.grownBy w' v.ownBlock := by
  obtain ⟨i0, hi, hz0, hz1, hz2⟩ := info_parts Tryd.infoB
  have hnews : ∀ j u, [Value.int .u8 x][j]? = some u → w.cell? (a.add j) = some u := by
    intro j u hj
    cases j with
    | zero => simp at hj; subst hj; rw [show a.add 0 = a by unfold Addr.add; split <;> simp_all]; exact ha
    | succ j => simp at hj
  have h1 : ∀ u ∈ [Value.int .u8 x], u.oneCell' = true := by intro u hu; simp at hu; subst hu; rfl
  rcases h with h | ⟨g, cap, cur, fz, rfl, hg, hh, f1, f2, f3, f4⟩
  · obtain ⟨v', w', hr, r1, r2, _⟩ := run_append_own (P := Tryd.prog) w base 22 ty 5 i0 (.int .u8 0) 1 1 Tryd.underlying22 hi hz0 hz1 hz2 rfl (by decide) v l.length (bytesV l) h a 1 c [.int .u8 x] rfl hnews h1 (by unfold maxLen; omega) (by omega) hbase
    refine ⟨v', w', hr, .inl ?_, r2⟩
    rw [bytesV_push l b x hx] at r1
    simpa using r1
  · by_cases hroom : l.length + 1 ≤ cap
    · have hlt : g < w.heap.size := (Array.getElem?_eq_some_iff.1 hh).1
      have hr := run_append_room_cells (P := Tryd.prog) w 22 ty 5 i0 Tryd.underlying22 hi g 0 l.length cap a 1 c [.int .u8 x] (by rw [hz1]; rfl) hnews h1 hroom
        (fun j hj => by simp at hj; subst hj; rw [hz1, cell_of_row w g _ cur 5 fz hh]; simp; omega)
        (fun j hj => by simp at hj; subst hj; rw [hz1]; simp [World.frozen?, hh]; omega)
      refine ⟨_, _, hr, .inr ⟨g, cap, cur.setIfInBounds l.length (.int .u8 x), fz, by simp, hg, ?_, by simp; exact f1, by simp; exact hroom, by simp; exact f3, ?_⟩, ?_⟩
      · rw [hz1]
        simp only [World.setCells, Nat.zero_add, Nat.mul_one]
        rw [setCell_eq_setRow w g l.length cur 5 fz _ hh]
        exact setRow_heap w g cur _ 5 fz hh
      · rw [← bytesV_push l b x hx, ← f4]
        apply List.ext_getElem?
        intro j
        have hcs : l.length < cur.size := by omega
        simp only [Array.toList_setIfInBounds, List.length_append, List.length_cons, List.length_nil, List.getElem?_take, List.getElem?_set, List.getElem?_append, List.length_take, Array.length_toList]
        by_cases hj : j < l.length
        · have : l.length ≠ j := by omega
          simp [hj, this, show j < l.length + 1 by omega, show j < min l.length cur.size by omega]
        · by_cases hj2 : j = l.length
          · subst hj2
            simp [hcs, show min l.length cur.size = l.length by omega]
          · have hm : min l.length cur.size = l.length := by omega
            have : ¬ j < l.length + 1 := by omega
            simp [this, hm, hj]
            omega
      · rw [hz1]
        simp only [World.setCells, Nat.zero_add, Nat.mul_one]
        exact ⟨rfl, rfl, rfl, by simp [World.setCell], fun k hk hne => Below.heap_setCell w _ _ k (fun e => hne (by simp [Value.ownBlock]; exact e))⟩
    · obtain ⟨v', w', hr, r1, r2⟩ := run_append_arg_grows (P := Tryd.prog) w 22 ty 5 i0 (.int .u8 0) 1 1 Tryd.underlying22 hi hz0 hz1 hz2 rfl (by decide) ⟨g, 0, none⟩ l.length cap (bytesV l) (by simp [bytesV])
        (fun j u hj => by
          rw [Addr.add_lit, Nat.zero_add, cell_of_row w g j cur 5 fz hh]
          rw [← f4, List.getElem?_take] at hj
          split at hj
          · simpa using hj
          · cases hj)
        a 1 c [.int .u8 x] rfl hnews (by omega) (by unfold maxLen; omega) (by omega)
      refine ⟨v', w', hr, .inl ?_, ⟨r2.os, r2.tape, r2.output, r2.size, fun k hk _ => r2.block k hk (by simp)⟩⟩
      rw [bytesV_push l b x hx] at r1
      have := r1.mono hbase
      simpa using this

theorem wpList_append_Q {w : World} {ops : Array Oper} {rest : List Oper} {o : Oper} {a : Act} {Q : Exit → Act → World → Prop} (hgd : o.guard = none) (s y : Operand)
    (ho : o.op = .call { callee := .builtin .append, args := #[s, y], argTypes := #[22, 22] }) (base : Nat) (v : Value) (l : List UInt8) (b : UInt8) (x : Int) (hx : x = (b.toNat : Int)) (hs : a.eval s = v) (h : ownsQ w base v l)
    (ad : Addr) (c : Nat) (hy : a.eval y = .slice (some ad) 1 c) (ha : w.cell? ad = some (.int .u8 x)) (h63 : l.length + 1 ≤ 100000000) (hbase : base ≤ w.heap.size)
    (hK : ∀ v' w', ownsQ w' base v' (l ++ [b]) → w.grownBy w' v.ownBlock → wpList Tryd.prog ops Q rest (a.put o.dst v') w') : wpList Tryd.prog ops Q (o :: rest) a w := by
  refine wpList_plain hgd fun K hK' => ?_
  obtain ⟨v', w', hrun, r1, r2⟩ := run_append_Q w base o.type v l b x hx h ad c ha h63 hbase
  unfold Oper.wp
  simp [execOp, ho, resolve, invoke, builtin, hs, hy, hrun, Result.andThen]
  exact hK' _ _ (hK v' w' r1 r2)

end Go.Proofs.YtfbdbeaijkhbfaaDoor
