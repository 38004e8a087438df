/- What (shaState).bytes answers: the eight words, four bytes each. -/
import Derived.Test.YtfbdbeaijkhbfaaDoorAfterI
import Derived.Test.YtfbdbeaijkhbfaaDoorPadI
namespace Go.Proofs.YtfbdbeaijkhbfaaDoor
open Go.RowKit
set_option linter.unusedVariables false

def bytesK (l : List Nat) (k : Nat) : List UInt8 := (l.take k).flatMap be4

theorem bytesK_succ (l : List Nat) (k : Nat) (h : k < l.length) : bytesK l (k + 1) = bytesK l k ++ beN 4 (l.getD k 0) := by
  rw [beN_4]
  unfold bytesK
  rw [List.take_add_one, List.flatMap_append]
  simp [List.getElem?_eq_getElem h]

theorem bytesK_length (l : List Nat) (k : Nat) (h : k ≤ l.length) : (bytesK l k).length = 4 * k := by
  induction k with
  | zero => rfl
  | succ k ih => rw [bytesK_succ l k (by omega), List.length_append, ih (by omega), beN_length]; omega

theorem bytesK_full (s : St) : bytesK s.list 8 = s.bytes := by
  simp [bytesK, St.list, St.bytes]

set_option maxRecDepth 100000 in
set_option maxHeartbeats 1000000 in
theorem stBytes_any (st : St) (w : World) (hst : st.ok) :
    Calls Tryd.prog 30 #[.agg (kV .u32 st.list).toArray] w fun e w' => e = .returned (.string ⟨st.bytes.toArray⟩) ∧ Below w.heap.size w w' := by
  obtain ⟨i0, hi, hz0, hz1, hz2⟩ := info_parts Tryd.infoB
  obtain ⟨l0, hl0⟩ : ∃ l, l = st.list := ⟨_, rfl⟩
  have hlen : l0.length = 8 := by rw [hl0]; rfl
  rw [← hl0]
  have hall : ∀ x ∈ l0, x < 4294967296 := by
    rw [hl0]
    obtain ⟨h1, h2, h3, h4, h5, h6, h7, h8⟩ := hst
    intro x hx
    simp only [St.list, List.mem_cons, List.not_mem_nil, or_false] at hx
    rcases hx with rfl | rfl | rfl | rfl | rfl | rfl | rfl | rfl <;> assumption
  have HL0 : Hid (l0 = st.list ∧ l0.length = 8 ∧ ∀ x ∈ l0, x < 4294967296) := ⟨hl0, hlen, hall⟩
  have HI8 : Hid ((Tryd.prog.info? 45).map (·.size) = some (kV .u32 l0).toArray.size) := by
    unfold Hid
    rw [show (kV .u32 l0).toArray.size = 8 by simp [kV, hlen]]; kernel_rfl
  clear hl0 hlen hall hst
  have r0 : Row (w.alloc (.cells (kV .u32 l0).toArray 47)) w.heap.size 47 .u32 l0 := Row.new w 47 .u32 l0
  go_enter Tryd.func30, Tryd.ntmps30
  go_wp2_with (first
    | (at_make; refine wpList_make_own _ rfl _ _ 22 rfl w.heap.size 5 i0 (.int .u8 0) 1 Tryd.underlying22 hi hz0 hz1 _ _ _ 32 rfl rfl (by omega) (by rw [hz2]; omega) (by unfold maxLen; omega) (by simp only [sz_alloc]; omega) ?_; intro w0 hown0 hgrow0; have r1 : w0.heap[w.heap.size]? = some (.cells (kV .u32 l0).toArray 47 (0, 0)) := (hgrow0.block _ (by simp only [sz_alloc]; omega) (by simp)).trans r0)
    | (refine wpList_load_row rfl 45 (.tmp 7) rfl w.heap.size rfl 47 (kV .u32 l0).toArray (0, 0) _ r1 Tryd.underlying45 rfl HI8.out ?_))
  have b0 : Below w.heap.size w w0 := ((Below.refl _ w).alloc (Nat.le_refl _) _).grown hgrow0 (by simp only [sz_alloc]; omega) (fun k hk => by cases hk)
  rw [sz_alloc] at hown0
  clear hgrow0 r1 r0
  go_loopw [3, 9] (fun v i wr => ∃ k : Nat, i = .int .i64 k ∧ k ≤ 8 ∧ wr.ownsRow w.heap.size 5 1 v (bytesK l0 k).length (bytesV (bytesK l0 k)) ∧ Below w.heap.size w wr) (fun _ i _ => 8 - (intOf i).toNat)
  case atStart => exact ⟨0, rfl, by omega, hown0, b0⟩
  case round =>
    obtain ⟨k, rfl, hk, hown, hb⟩ := hrel
    clear hown0 b0
    by_cases hlt : k < 8
    · have bk : (k : Int) < 8 := by omega
      obtain ⟨x, hx⟩ : ∃ x, x = l0.getD k 0 := ⟨_, rfl⟩
      have hidx : (Instr.index 45 (.agg (kV .u32 l0).toArray) (.int .i64 (k : Int))).run Tryd.prog wr = .ok (.int .u32 (x : Int)) wr := by
        rw [hx]; exact index_row 45 44 8 .u32 l0 k wr Tryd.underlying45 Tryd.underlying44 Tryd.sizeOf44 hlt (by rw [HL0.out.2.1]; exact hlt)
      have hx32 : x < 4294967296 := by rw [hx]; exact getD_lt32 HL0.out.2.2 _
      have HX : Hid (x = l0.getD k 0) := hx
      clear hx
      go_wp2_with fail
      refine (withNumber_any w.heap.size x 4 (bytesK l0 k) _ _ (by omega) (by omega) (by rw [bytesK_length _ _ (by rw [HL0.out.2.1]; omega)]; omega) hb.size hown).mono ?_
      rintro e w4 ⟨v4, rfl, hown4, hb4⟩
      have o4 : w4.ownsRow w.heap.size 5 1 v4 (bytesK l0 (k + 1)).length (bytesV (bytesK l0 (k + 1))) := by
        rw [bytesK_succ l0 k (by rw [HL0.out.2.1]; exact hlt), ← HX.out, List.length_append, beN_length]; exact hown4
      have b4 := hb.trans hb4
      clear hown hown4 hb hb4 hidx
      go_wp2
      go_roundw
      case rel => exact ⟨k + 1, by go_num, by omega, o4, b4⟩
      case measure => simp [intOf]; omega
    · have hk8 : k = 8 := by omega
      have bk : ¬ ((k : Int) < 8) := by omega
      have hcv := own_convert (P := Tryd.prog) hown Tryd.underlying22 Tryd.underlying5 Tryd.underlying9
      have HE : Hid (bytesK l0 k = st.bytes) := by unfold Hid; rw [hk8, HL0.out.1]; exact bytesK_full st
      clear hk8 hlt hown
      go_wp2
      go_ret
      exact ⟨by rw [HE.out]; rfl, hb⟩

end Go.Proofs.YtfbdbeaijkhbfaaDoor
