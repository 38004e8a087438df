/- What spec.ShaStart and impl.ShaStart answer: SHA-256's first eight numbers, in memory of their own. -/
import Derived.Test.YtfbdbeaijkhbfaaDoorNumbers8
import Derived.Test.YtfbdbeaijkhbfaaDoorIntSl
import Derived.Test.YtfbdbeaijkhbfaaDoorFirstS
import Derived.Test.YtfbdbeaijkhbfaaDoorDigestI
import Derived.Test.YtfbdbeaijkhbfaaDoorPlaces
namespace Go.Proofs.YtfbdbeaijkhbfaaDoor
open Go.RowKit
set_option linter.unusedVariables false

def toZ (l : List Nat) : List Int := l.map fun (n : Nat) => ((n : Nat) : Int)

theorem toZ_length (l : List Nat) : (toZ l).length = l.length := by simp [toZ]

theorem toZ_take (l : List Nat) (k x : Nat) (h : k < l.length) (hx : x = l.getD k 0) :
    (toZ (l.take k)).map (Value.int .i64) ++ [.int .i64 ((x : Nat) : Int)] = (toZ (l.take (k + 1))).map (Value.int .i64) := by
  have e : l.take (k + 1) = l.take k ++ [x] := by rw [List.take_add_one, hx]; simp [List.getElem?_eq_getElem h]
  rw [e]
  simp [toZ]

theorem OwnI.ofRow {w : World} {g t cap : Nat} {l : List Nat} (h : Row w g t .i64 l) : OwnI w g (.slice (some ⟨g, 0, none⟩) l.length cap) (toZ l) := by
  refine ⟨⟨cap, by rw [toZ_length]⟩, h.lt, fun j hj => ?_⟩
  rw [toZ_length] at hj
  refine ⟨?_, h.frozen j⟩
  rw [h.cell j hj]
  simp [toZ, hj]

theorem OwnI.ofOwns {w : World} {base e : Nat} {v : Value} {n : Nat} {zs : List Int} (h : w.ownsRow base e 1 v n (zs.map (Value.int .i64))) (hv : ¬ v = .slice none 0 0) : ∃ g, base ≤ g ∧ OwnI w g v zs := by
  have hn : n = zs.length := by have := h.1; simp at this; omega
  rcases h.2 with ⟨h0, _⟩ | ⟨g, cap, cur, rfl, hg, hh, h1, h2, h3, h4⟩
  · exact absurd h0 hv
  · refine ⟨g, hg, ⟨cap, by rw [hn]⟩, (Array.getElem?_eq_some_iff.1 hh).1, fun j hj => ⟨?_, frozen_of_row w g j cur e hh⟩⟩
    rw [cell_of_row w g j cur e _ hh]
    have : (zs.map (Value.int .i64))[j]? = some (.int .i64 (zs.getD j 0)) := by simp [hj]
    rw [← h4, List.getElem?_take] at this
    split at this
    · simpa using this
    · cases this

theorem builtSt3 (a : Act) (ha : a.eval (.tmp 2) = .agg (kV .u32 begin8.list).toArray) : Tryd.prog.built 47 ((#[(0, Operand.tmp 2)] : Array (Nat × Operand)).map fun (i, x) => (i, a.eval x)).toList = some (kV .u32 begin8.list).toArray := by
  have e : ((#[(0, Operand.tmp 2)] : Array (Nat × Operand)).map fun (i, x) => (i, a.eval x)).toList = [(0, .agg (kV .u32 begin8.list).toArray)] := by simp [ha]
  rw [e, builtB]

theorem begin_lt : ∀ x ∈ begin8.list, x < 4294967296 := by decide

set_option maxRecDepth 100000 in
set_option maxHeartbeats 1000000 in
theorem iStart_any (w : World) (hB : TabB w) :
    Calls Tryd.prog 8 #[] w fun e w' => ∃ g v, e = .returned v ∧ w.heap.size ≤ g ∧ OwnI w' g v (toZ begin8.list) ∧ Below w.heap.size w w' := by
  obtain ⟨tb, fr, hblk⟩ := hB.block
  obtain ⟨Bg, hBg⟩ : ∃ Bg, Bg = (kV .u32 begin8.list).toArray := ⟨_, rfl⟩
  obtain ⟨Bi, hBi⟩ : ∃ Bi, Bi = (kV .i64 begin8.list).toArray := ⟨_, rfl⟩
  rw [← hBg] at hblk
  have HH : Hid (Bg = (kV .u32 begin8.list).toArray ∧ (Tryd.prog.info? 45).map (·.size) = some Bg.size) := by
    refine ⟨hBg, ?_⟩
    rw [hBg]; kernel_rfl
  have HJ : Hid (Bi = (kV .i64 begin8.list).toArray ∧ (Tryd.prog.info? 43).map (·.size) = some Bi.size ∧ 8 = Bi.size ∧ Bi.all (·.oneCell') = true) := by
    refine ⟨hBi, ?_, ?_, ?_⟩
    · rw [hBi]; kernel_rfl
    · rw [hBi]; rfl
    · rw [hBi]; exact kV_one _ _
  clear hB
  go_enter Tryd.func8, Tryd.ntmps8
  go_wp2_with (first
    | (refine wpList_load_row rfl 45 (.global 0) rfl 0 rfl tb Bg fr _ hblk Tryd.underlying45 rfl HH.out.2 ?_)
    | (refine wpList_buildTo rfl 47 #[(0, .tmp 2)] rfl (some 3) rfl Bg (by rw [HH.out.1]; exact builtSt3 _ (by rw [← HH.out.1]; rfl)) ?_))
  refine (numbers_any begin8.list _ rfl begin_lt).mono ?_
  rintro e w1 ⟨rfl, b1⟩
  rw [← hBi]
  clear hBg hBi hblk
  go_wp2_with (refine wpList_store_row rfl 43 (.tmp 1) (.tmp 4) rfl w1.heap.size Bi rfl rfl 43 _ (heap_alloc_last w1 _) HJ.out.2.1 HJ.out.2.2.1 HJ.out.2.2.2 ?_)
  go_ret
  rw [zeros8i, HJ.out.1]
  refine ⟨w1.heap.size, _, rfl, b1.size, ?_, below_setRow (b1.alloc b1.size _) b1.size _⟩
  exact OwnI.ofRow (Row.stored (Row.new w1 43 .i64 (List.replicate 8 0)))

set_option maxRecDepth 100000 in
set_option maxHeartbeats 1000000 in
theorem sStart_any (w : World) :
    Calls Tryd.prog 29 #[] w fun e w' => ∃ g v, e = .returned v ∧ w.heap.size ≤ g ∧ OwnI w' g v (toZ begin8.list) ∧ Below w.heap.size w w' := by
  obtain ⟨i0, hi, hz0, hz1, hz2⟩ := info_parts Tryd.infoI
  obtain ⟨l0, hl0⟩ : ∃ l, l = begin8.list := ⟨_, rfl⟩
  have HL : Hid (l0 = begin8.list ∧ l0.length = 8 ∧ (∀ x ∈ l0, x < 4294967296)) := ⟨hl0, by rw [hl0]; rfl, by rw [hl0]; exact begin_lt⟩
  have HI : Hid ((Tryd.prog.info? 45).map (·.size) = some (kV .u32 l0).toArray.size ∧ 8 = (kV .u32 l0).toArray.size) := by
    rw [hl0]; exact ⟨by kernel_rfl, rfl⟩
  go_enter Tryd.func29, Tryd.ntmps29
  go_wp2_with fail
  refine (l03First_any _).mono ?_
  rintro e w1 ⟨rfl, b1⟩
  rw [← hl0]
  clear hl0
  go_wp2_with (refine wpList_store_row rfl 45 (.tmp 1) (.tmp 4) rfl w1.heap.size (kV .u32 l0).toArray rfl rfl 45 _ (heap_alloc_last w1 _) HI.out.1 HI.out.2 (kV_one _ _) ?_)
  rw [zeros8]
  obtain ⟨w2, hw2⟩ : ∃ w2, w2 = ((w1.alloc (.cells (kV .u32 (List.replicate 8 0)).toArray 45)).setRow w1.heap.size (kV .u32 l0).toArray) := ⟨_, rfl⟩
  rw [← hw2]
  obtain ⟨S, hS⟩ : ∃ S, S = w1.heap.size := ⟨_, rfl⟩
  rw [← hS]
  have hs2 : w2.heap.size = S + 1 := by rw [hw2, hS]; simp only [size_setRow, sz_alloc]
  have r2 : Row w2 S 45 .u32 l0 := by rw [hw2, hS]; exact Row.stored (Row.new w1 45 .u32 (List.replicate 8 0))
  have b2 : Below w.heap.size w w2 := by rw [hw2]; exact below_setRow (b1.alloc b1.size _) b1.size _
  have hSw : w.heap.size ≤ S := by rw [hS]; exact b1.size
  clear hw2 hS b1
  have o2 : (w2.alloc (.cells #[] 3)).ownsRow (S + 1) 3 1 (.slice (some ⟨S + 1, 0, none⟩) 0 0) 0 [] := by
    have := World.ownsRow_lit (base := w2.heap.size) (e := 3) (size := 1) w2 #[] 0 (Nat.le_refl _) (by decide) rfl
    rw [hs2] at this
    exact this
  have r3 := r2.alloc (.cells #[] 3)
  have b3 : Below w.heap.size w (w2.alloc (.cells #[] 3)) := b2.alloc b2.size _
  clear r2 b2
  go_loopw [2, 3] (fun v i wr => ∃ k : Nat, i = .int .i64 k ∧ k ≤ 8 ∧ wr.ownsRow (S + 1) 3 1 v k ((toZ (l0.take k)).map (Value.int .i64)) ∧ ¬ v = .slice none 0 0 ∧ Row wr S 45 .u32 l0 ∧ Below w.heap.size w wr ∧ S + 1 ≤ wr.heap.size) (fun _ i _ => 8 - (intOf i).toNat)
  case atStart => exact ⟨0, rfl, by omega, o2, (fun h => by cases h), r3, b3, by simp only [sz_alloc]; omega⟩
  case round =>
    obtain ⟨k, rfl, hk, hown, hnil, hrow, hb, hsz⟩ := hrel
    clear o2 r3 b3
    by_cases hlt : k < 8
    · have bk : (k : Int) < 8 := by omega
      obtain ⟨x, hx⟩ : ∃ x, x = l0.getD k 0 := ⟨_, rfl⟩
      have cx := hrow.cell k (by rw [HL.out.2.1]; exact hlt)
      rw [← hx] at cx
      have hx32 : x < 4294967296 := by rw [hx]; exact getD_lt32 HL.out.2.2 _
      have HX : Hid (x = l0.getD k 0) := hx
      clear hx
      go_wp2_with (at_builtin; refine wpList_append_own _ rfl (.tmp 10) (.tmp 15) 26 rfl (S + 1) 3 i0 (.int .i64 0) 1 8 Tryd.underlying26 hi hz0 hz1 hz2 rfl (by decide) _ _ _ rfl (hown.alloc _) ⟨wr.heap.size, 0, none⟩ 1 1 [.int .i64 (x : Int)] rfl rfl ?c1 ?c2 ?c3 ?c4 ?c5 ?_)
      case c1 => exact cell_one_new _ _ _
      case c2 => intro u hu; simp at hu; subst hu; rfl
      case c3 => unfold maxLen; omega
      case c4 => omega
      case c5 => simp; omega
      intro v' w3 hown3 hgrow3 hnil3
      have hn3 : ¬ v' = .slice none 0 0 := hnil3
      have e3 := toZ_take l0 k x (by rw [HL.out.2.1]; exact hlt) HX.out
      rw [e3] at hown3
      have hg := hown.lt
      have r4 : Row w3 S 45 .u32 l0 := (hgrow3.block S (by simp only [sz_alloc]; omega) (fun h => by have := (hg S h.symm).1; omega)).trans (hrow.alloc _)
      have b4 : Below w.heap.size w w3 := (hb.alloc hb.size _).grown hgrow3 (by have := hb.size; simp only [sz_alloc]; omega) (fun k hk => by have := (hg k hk).1; omega)
      have s4 : S + 1 ≤ w3.heap.size := by have := hgrow3.size; simp only [sz_alloc] at this; omega
      clear hgrow3 hown hnil hrow hb hnil3 e3 cx hg
      go_wp2
      go_roundw
      case rel => exact ⟨k + 1, by go_num, by omega, hown3, hn3, r4, b4, s4⟩
      case measure => simp [intOf]; omega
    · have hk8 : k = 8 := by omega
      have bk : ¬ ((k : Int) < 8) := by omega
      have e3 : l0.take k = begin8.list := by rw [hk8, List.take_of_length_le (by rw [HL.out.2.1]; omega)]; exact HL.out.1
      rw [e3] at hown
      have HF : Hid (∃ g, S + 1 ≤ g ∧ OwnI wr g u2 (toZ begin8.list)) := OwnI.ofOwns hown hnil
      clear hown hnil hrow e3 hk8
      go_wp2
      go_ret
      obtain ⟨g, h1, h2⟩ := HF.out
      exact ⟨g, _, rfl, by omega, h2, hb⟩

end Go.Proofs.YtfbdbeaijkhbfaaDoor
