/- What spec.PadText answers at every text of at most 1048576 bytes. -/
import Derived.Test.YtfbdbeaijkhbfaaDoorPadI
import Derived.Test.YtfbdbeaijkhbfaaDoorOwnQ
namespace Go.Proofs.YtfbdbeaijkhbfaaDoor
open Go.RowKit
set_option linter.unusedVariables false

theorem ownsQ_slice {w : World} {base : Nat} {v : Value} {l : List UInt8} (h : ownsQ w base v l) : ∃ ao cap, v = .slice ao l.length cap := by
  rcases h with h | ⟨g, cap, cur, fz, rfl, _⟩
  · exact own_slice h
  · exact ⟨_, cap, rfl⟩

theorem cell_new0 (w : World) (x : Value) (t : TypeId) : (w.alloc (.cells #[x] t)).cell? ⟨w.heap.size, 0, none⟩ = some x := by
  simp

set_option maxHeartbeats 1600000 in
theorem sPad_any (s : ByteArray) (w : World) (hs : s.size ≤ 1048576) :
    Calls Tryd.prog 33 #[.string s] w fun e w' => e = .returned (.string ⟨(padL s.data.toList).toArray⟩) ∧ Below w.heap.size w w' := by
  obtain ⟨v0, w0, hcv, q0, b0⟩ := ownsQ_conv s w
  have hl : s.data.toList.length = s.size := rfl
  have k0 := b0.size
  have HB0 : Hid (Below w.heap.size w w0) := b0
  clear b0
  go_enter Tryd.func33, Tryd.ntmps33
  go_wp2_with (at_builtin; refine wpList_append_Q rfl (.tmp 8) (.tmp 9) rfl w.heap.size _ s.data.toList 128 128 rfl rfl (q0.alloc _) ⟨w0.heap.size, 0, none⟩ 1 rfl (cell_new0 _ _ _) (by omega) (by simp; omega) ?_; intro v1 w1 q1 g1)
  have b1 : Below w.heap.size w w1 := (HB0.out.alloc k0 _).grown g1 (by simp; omega) (fun k hk => q0.lt k hk)
  have q1' : ownsQ w1 w.heap.size v1 (padZL s.data.toList 0) := by simpa [padZL] using q1
  clear q0 q1 g1 hcv
  go_loopw [3] (fun v wr => ∃ z : Nat, z ≤ zerosOf s.size ∧ ownsQ wr w.heap.size v (padZL s.data.toList z) ∧ Below w.heap.size w wr)
    (fun v _ => s.size + 1 + zerosOf s.size - (match v with | .slice _ n _ => n | _ => 0))
  case atStart => exact ⟨0, by omega, q1', b1⟩
  case round =>
    obtain ⟨z, hz, hq, hb⟩ := hrel
    have hbs := hb.size
    clear q1' b1
    have hzu : zerosOf s.size ≤ 64 := by unfold zerosOf; omega
    obtain ⟨ao, cap, hv⟩ := ownsQ_slice hq
    have hln : (padZL s.data.toList z).length = s.size + 1 + z := padZL_length _ _
    obtain ⟨n, hn⟩ : ∃ n, n = s.size + 1 + z := ⟨_, rfl⟩
    rw [hln, ← hn] at hv
    have HV : Hid (u3 = .slice ao n cap) := hv
    subst hv
    have HN : Hid (n = s.size + 1 + z ∧ (padZL s.data.toList z).length = n) := ⟨hn, by omega⟩
    by_cases hlt : z < zerosOf s.size
    · have t1 : ¬ ((n : Int) % 64 = 56) := by unfold zerosOf at hlt; omega
      have hn3 : n ≤ 2000000 := by omega
      clear hln hn hz
      go_wp2_with (at_builtin; refine wpList_append_Q rfl (.tmp 15) (.tmp 16) rfl w.heap.size _ (padZL s.data.toList z) 0 0 rfl rfl (hq.alloc _) ⟨wr.heap.size, 0, none⟩ 1 rfl (cell_new0 _ _ _) (by have := HN.out.2; omega) (by simp; omega) ?_; intro v3 w3 q3 g3)
      rw [padZL_push] at q3
      have b3 : Below w.heap.size w w3 := (hb.alloc hbs _).grown g3 (by simp; omega) (fun k hk => hq.lt k hk)
      obtain ⟨ao3, cap3, hv3⟩ := ownsQ_slice q3
      have hl3 : (padZL s.data.toList (z + 1)).length = n + 1 := by have := HN.out.1; rw [padZL_length]; show s.size + 1 + (z + 1) = _; omega
      clear g3 hq hb
      go_roundw
      case rel => exact ⟨z + 1, by omega, q3, b3⟩
      case measure => have := HN.out.1; subst hv3; simp [hl3]; omega
    · have hzz : z = zerosOf s.size := by omega
      have t1 : (n : Int) % 64 = 56 := by rw [hn, hzz]; unfold zerosOf; omega
      obtain ⟨N, hN⟩ : ∃ N, N = 8 * s.size := ⟨_, rfl⟩
      have e8 : 8 * (s.size : Int) = (N : Int) := by omega
      obtain ⟨l, hL⟩ : ∃ l, l = padZL s.data.toList z := ⟨_, rfl⟩
      have hll : l.length ≤ 2000000 := by rw [hL]; omega
      rw [← hL] at hq
      have HE : Hid (N = 8 * s.data.toList.length ∧ z = zerosOf s.data.toList.length ∧ l = padZL s.data.toList z) := ⟨hN, hzz, hL⟩
      have hNu : (N : Int) ≤ 8388608 := by omega
      clear hln hn hz hzu hlt hzz hN hL hl HN
      go_wp2
      clear t1
      go_loopw [3, 5] (fun v v5 wx => ∃ (r : Nat) (l' : List UInt8), v5 = .int .i64 ((r : Int) - 1) ∧ r ≤ 8 ∧ l'.length + r = l.length + 8 ∧ Hid (l ++ beN 8 N = l' ++ beN r N) ∧ ownsQ wx w.heap.size v l' ∧ Below w.heap.size w wx)
        (fun _ v _ => (intOf v + 1).toNat)
      case atStart => exact ⟨8, l, rfl, by omega, rfl, rfl, hq, hb⟩
      case round =>
        obtain ⟨r, l', rfl, hr, hlen, hE, hq', hb'⟩ := hrel
        have hbs' := hb'.size
        clear hq hb hbs
        by_cases h0 : r = 0
        · subst h0
          have hd : ¬ ((0 : Int) ≤ ((0 : Nat) : Int) - 1) := by omega
          have hcv := hq'.convert
          clear hq'
          go_wp2
          go_ret
          refine ⟨?_, hb'⟩
          rw [padL_eq, ← HE.out.1, ← HE.out.2.1, ← HE.out.2.2, hE.out]
          simp [beN]
        · obtain ⟨q, rfl⟩ : ∃ q, r = q + 1 := ⟨r - 1, by omega⟩
          obtain ⟨d, hd⟩ : ∃ d, d = 8 * q := ⟨_, rfl⟩
          have e1 : (((q + 1 : Nat) : Int) - 1) = (q : Int) := by omega
          have e2 : 8 * (q : Int) = (d : Int) := by omega
          have hd64 : (d : Int) < 64 := by omega
          have hq8 : (q : Int) < 8 := by omega
          rw [e1]
          have HD : Hid (d = 8 * q) := hd
          clear hd e1
          go_wp2_with (at_builtin; refine wpList_append_Q rfl (.tmp 25) (.tmp 32) rfl w.heap.size _ l' (UInt8.ofNat (N / 2 ^ d)) ((N : Int) / 2 ^ d % 256) (u8_of_div N d) rfl (hq'.alloc _) ⟨wr.heap.size, 0, none⟩ 1 rfl (cell_new0 _ _ _) (by omega) (by simp; omega) ?_; intro v3 w3 q3 g3)
          have b3 : Below w.heap.size w w3 := (hb'.alloc hbs' _).grown g3 (by simp; omega) (fun k hk => hq'.lt k hk)
          clear g3 hq' hb'
          go_roundw
          case rel => exact ⟨q, l' ++ [UInt8.ofNat (N / 2 ^ d)], rfl, by omega, by simp; omega, by unfold Hid; rw [hE.out, beN, HD.out]; simp, q3, b3⟩
          case measure => simp [intOf]

end Go.Proofs.YtfbdbeaijkhbfaaDoor
