/- What impl.Hex answers at every text. -/
import Derived.Test.YtfbdbeaijkhbfaaDoorVar
import Derived.Test.YtfbdbeaijkhbfaaDoorHexMath
import Derived.WalkKit
import Derived.WalkSpells
import Derived.Deep.RegionHeld3
import Derived.Deep.AppendLies
namespace Go.Proofs.YtfbdbeaijkhbfaaDoor
open Go.RowKit
set_option linter.unusedVariables false

theorem iHex_out (s : ByteArray) (w : World) (hn : 20000 < s.size) :
    Calls Tryd.prog 37 #[.string s] w fun e w' => e = .returned (.tuple #[.string ⟨#[]⟩, .bool false]) ∧ Below w.heap.size w w' := by
  go_enter Tryd.func37, Tryd.ntmps37
  go_wp2
  go_ret2
  exact ⟨rfl, Below.refl _ _⟩

set_option maxRecDepth 100000 in
set_option maxHeartbeats 1000000 in
theorem iHex_in (s : ByteArray) (w : World) (hn : s.size ≤ 20000) :
    Calls Tryd.prog 37 #[.string s] w fun e w' => e = .returned (.tuple #[.string ⟨(hexOf s.data.toList).toArray⟩, .bool true]) ∧ Below w.heap.size w w' := by
  obtain ⟨i0, hi, hz0, hz1, hz2⟩ := info_parts Tryd.infoB
  go_enter Tryd.func37, Tryd.ntmps37
  go_wp2_with (at_make; refine wpList_make_own _ rfl _ _ 22 rfl w.heap.size 5 i0 (.int .u8 0) 1 Tryd.underlying22 hi hz0 hz1 _ _ _ (2 * s.size) rfl rfl (by omega) (by rw [hz2]; omega) (by unfold maxLen; omega) (Nat.le_refl _) ?_; intro w0 hown0 hgrow0)
  have hb0 : Below w.heap.size w w0 := (Below.refl _ _).grown hgrow0 (Nat.le_refl _) (fun k hk => by cases hk)
  go_loopw [4, 5] (fun v i wr => ∃ (k : Nat) (l : List UInt8), i = .int .i64 k ∧ k ≤ s.size ∧ l.length ≤ 2 * k ∧ Hid (l = hexOf (s.data.toList.take k)) ∧ wr.ownsRow w.heap.size 5 1 v l.length (bytesV l) ∧ Below w.heap.size w wr)
    (fun _ i _ => s.size - (intOf i).toNat)
  case atStart => exact ⟨0, [], rfl, by omega, by simp, by unfold Hid; rfl, hown0, hb0⟩
  case round =>
    obtain ⟨k, l, rfl, hk, hl, hL, hown, hb⟩ := hrel
    have hbs := hb.size
    by_cases hlt : k < s.size
    · have hx : s[k].toNat < 256 := s[k].toNat_lt
      have k1 : (k : Int) < (s.size : Int) := by omega
      have k0 : (0 : Int) ≤ (k : Int) := by omega
      obtain ⟨p, hp⟩ : ∃ p, p = s[k].toNat / 16 := ⟨_, rfl⟩
      obtain ⟨q, hq⟩ : ∃ q, q = s[k].toNat % 16 := ⟨_, rfl⟩
      have p1 : p < 16 := by omega
      have q1 : q < 16 := by omega
      have p2 : (p : Int) < 16 := by omega
      have q2 : (q : Int) < 16 := by omega
      have wp : IntKind.u8.wrap ((s[k].toNat : Int) / 16) = (p : Int) := u8_in _ _ (by omega) (by omega)
      have wq : ((s[k].toNat : Int)).tmod 16 = (q : Int) := tmod_in s[k].toNat 16 q hq
      have HP : Hid (p = s[k].toNat / 16) := hp
      have HQ : Hid (q = s[k].toNat % 16) := hq
      clear hp hq
      go_wp2
      go_region_held3 (fun _ => True) (trivial) ((refine step_append_lies _ (by rfl) _ _ _ (by rfl) w.heap.size 5 i0 (.int .u8 0) 1 1 Tryd.underlying22 hi hz0 hz1 hz2 rfl (by omega) _ l.length (bytesV l) (by rfl) ((hown.alloc _).drew) ⟨wr.heap.size, 0, none⟩ 2 2 [.int .u8 ((figs[p]'p1).toNat : Int), .int .u8 ((figs[q]'q1).toNat : Int)] (by rfl) (by rfl) (World.news_of_block (cs := #[.int .u8 ((figs[p]'p1).toNat : Int), .int .u8 ((figs[q]'q1).toNat : Int)]) (t := 5) (fr := (0, 0)) (heap_alloc_new wr _)) (by simp [Value.oneCell']) (by omega) (by unfold maxLen; omega) (by omega) (by simp; omega) (wr.heap.size + 1) (by simp) ?_; intro gg cap w1 hown1 hgrow hat hlt1))
      all_goals
        have hb' : Below w.heap.size w w1 := ((hb.alloc hbs _).drew).grown hgrow (by simp; omega) (fun x hx => (hown.lt x hx).1)
        have hown2 := hown1
        rw [figs_push l p q p1 q1] at hown2
        clear hgrow hown hb hown1
        go_wp2
        go_roundw
        case rel => exact ⟨k + 1, l ++ [hexD p, hexD q], by go_num, by omega, by simp; omega, by unfold Hid; rw [hex_take s k hlt, ← hL.out, ← HP.out, ← HQ.out], by simpa using hown2, hb'⟩
        case measure => simp [intOf]; omega
    · have hcv := own_convert (P := Tryd.prog) hown Tryd.underlying22 Tryd.underlying5 Tryd.underlying9
      have hkk : k = s.size := by omega
      have hE : Hid (l = hexOf s.data.toList) := by unfold Hid; rw [hL.out, hkk, List.take_of_length_le (by simp)]
      clear hkk hown
      go_wp2
      go_ret2
      exact ⟨by rw [hE.out]; rfl, hb⟩
end Go.Proofs.YtfbdbeaijkhbfaaDoor
