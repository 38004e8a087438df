/- What impl.PadText answers at every text of at most 1048576 bytes. -/
import Derived.Test.YtfbdbeaijkhbfaaDoorWithNum
import Derived.Lib.AppendStr
namespace Go.Proofs.YtfbdbeaijkhbfaaDoor
open Go.RowKit
set_option linter.unusedVariables false

theorem strCells_V (s : ByteArray) : Lib.strCells s = bytesV s.data.toList := by
  simp [Lib.strCells, bytesV]

theorem own_slice {w : World} {base e size : Nat} {v : Value} {n : Nat} {xs : List Value} (h : w.ownsRow base e size v n xs) : ∃ ao cap, v = .slice ao n cap := by
  rcases h.2 with ⟨rfl, rfl⟩ | ⟨g, cap, cur, rfl, _⟩
  · exact ⟨none, 0, rfl⟩
  · exact ⟨_, cap, rfl⟩

/-- The text, the byte 128 and z zeros. -/
def padZL (l : List UInt8) (z : Nat) : List UInt8 := l ++ [128] ++ List.replicate z 0

theorem padZL_length (l : List UInt8) (z : Nat) : (padZL l z).length = l.length + 1 + z := by simp [padZL]; omega

theorem padZL_push (l : List UInt8) (z : Nat) : padZL l z ++ [0] = padZL l (z + 1) := by
  simp [padZL, List.replicate_succ']

theorem padL_eq (l : List UInt8) : padL l = padZL l (zerosOf l.length) ++ beN 8 (8 * l.length) := by
  rw [beN_8]; rfl

set_option maxHeartbeats 1600000 in
theorem iPad_any (s : ByteArray) (w : World) (hs : s.size ≤ 1048576) :
    Calls Tryd.prog 7 #[.string s] w fun e w' => e = .returned (.string ⟨(padL s.data.toList).toArray⟩) ∧ Below w.heap.size w w' := by
  obtain ⟨i0, hi, hz0, hz1, hz2⟩ := info_parts Tryd.infoB
  obtain ⟨m, hm⟩ : ∃ m, m = (s.size + 8) / 64 * 64 + 64 := ⟨_, rfl⟩
  have e1 : ((s.size : Int) + 8) / 64 * 64 + 64 = (m : Int) := by omega
  have hml : s.size + 9 ≤ m := by omega
  have hmu : m ≤ s.size + 72 := by omega
  have HM : Hid (m = (s.size + 8) / 64 * 64 + 64) := hm
  clear hm
  go_enter Tryd.func7, Tryd.ntmps7
  go_wp2_with (first
    | (at_make; refine wpList_make_own _ rfl _ _ 22 rfl w.heap.size 5 i0 (.int .u8 0) 1 Tryd.underlying22 hi hz0 hz1 _ _ _ m rfl rfl (by omega) (by rw [hz2]; omega) (by unfold maxLen; omega) (Nat.le_refl _) ?_; intro w0 hown0 hgrow0)
    | (at_builtin; refine Lib.wpList_append_own_string _ rfl (.tmp 13) (.tmp 14) 22 9 rfl w.heap.size 5 i0 Tryd.underlying22 Tryd.underlying9 hi hz0 hz1 hz2 _ _ _ rfl hown0 s rfl (by unfold maxLen; omega) (by omega) hgrow0.size ?_; intro v1 w1 hown1 hgrow1 _)
    | (at_builtin; refine wpList_append_own _ rfl (.tmp 16) (.tmp 17) 22 rfl w.heap.size 5 i0 (.int .u8 0) 1 1 Tryd.underlying22 hi hz0 hz1 hz2 rfl (by decide) _ _ _ rfl (hown1.alloc _) ⟨w1.heap.size, 0, none⟩ 1 1 [.int .u8 128] rfl rfl ?c1 ?c2 ?c3 ?c4 ?c5 ?_))
  case c1 => exact cell_one_new _ _ _
  case c2 => intro u hu; simp at hu; subst hu; rfl
  case c3 => unfold maxLen; omega
  case c4 => omega
  case c5 => have := hgrow0.size; have := hgrow1.size; simp; omega
  intro v2 w2 hown2 hgrow2 _
  have b0 : Below w.heap.size w w0 := (Below.refl _ w).grown hgrow0 (Nat.le_refl _) (fun k hk => by cases hk)
  have b1 : Below w.heap.size w w1 := b0.grown hgrow1 b0.size (fun k hk => (hown0.lt k hk).1)
  have b2 : Below w.heap.size w w2 := (b1.alloc b1.size _).grown hgrow2 (by have := b1.size; simp; omega) (fun k hk => (hown1.lt k hk).1)
  have o2 : w2.ownsRow w.heap.size 5 1 v2 (padZL s.data.toList 0).length (bytesV (padZL s.data.toList 0)) := by
    have e2 : bytesV (padZL s.data.toList 0) = Lib.strCells s ++ [.int .u8 128] := by rw [strCells_V]; simp [padZL, bytesV]
    have e3 : (padZL s.data.toList 0).length = s.size + 1 := by rw [padZL_length]; show s.size + 1 + 0 = _; omega
    rw [e2, e3]
    exact hown2
  clear hown0 hown1 hown2 hgrow0 hgrow1 hgrow2 b0 b1
  go_wp2
  go_loopw [4] (fun v wr => ∃ z : Nat, s.size + 1 + z ≤ m - 8 ∧ wr.ownsRow w.heap.size 5 1 v (padZL s.data.toList z).length (bytesV (padZL s.data.toList z)) ∧ Below w.heap.size w wr)
    (fun v _ => m - (match v with | .slice _ n _ => n | _ => 0))
  case atStart => exact ⟨0, by omega, o2, b2⟩
  case round =>
    obtain ⟨z, hz, hown, hb⟩ := hrel
    have hbs := hb.size
    clear o2 b2
    obtain ⟨ao, cap, hv⟩ := own_slice hown
    subst hv
    have hln : (padZL s.data.toList z).length = s.size + 1 + z := padZL_length _ _
    obtain ⟨n, hn⟩ : ∃ n, n = (padZL s.data.toList z).length := ⟨_, rfl⟩
    rw [← hn] at hown hln ⊢
    have HN : Hid (n = (padZL s.data.toList z).length ∧ n = s.size + 1 + z) := ⟨hn, hln⟩
    clear hn
    have e3 : (m : Int) - 8 = ((m - 8 : Nat) : Int) := by omega
    by_cases hlt : n < m - 8
    · have t1 : (n : Int) < (m : Int) - 8 := by omega
      clear hln e3
      go_wp2_with (at_builtin; refine wpList_append_own _ rfl (.tmp 24) (.tmp 25) 22 rfl w.heap.size 5 i0 (.int .u8 0) 1 1 Tryd.underlying22 hi hz0 hz1 hz2 rfl (by decide) _ _ _ rfl (hown.alloc _) ⟨wr.heap.size, 0, none⟩ 1 1 [.int .u8 0] rfl rfl ?d1 ?d2 ?d3 ?d4 ?d5 ?_)
      case d1 => exact cell_one_new _ _ _
      case d2 => intro u hu; simp at hu; subst hu; rfl
      case d3 => unfold maxLen; omega
      case d4 => omega
      case d5 => simp; omega
      intro v3 w3 hown3 hgrow3 _
      have hn2 := HN.out.2
      have b3 : Below w.heap.size w w3 := (hb.alloc hbs _).grown hgrow3 (by simp; omega) (fun k hk => (hown.lt k hk).1)
      have o3 : w3.ownsRow w.heap.size 5 1 v3 (padZL s.data.toList (z + 1)).length (bytesV (padZL s.data.toList (z + 1))) := by
        rw [bytesV_push (padZL s.data.toList z) 0 0 rfl, padZL_push] at hown3
        have e4 : (padZL s.data.toList (z + 1)).length = n + 1 := by rw [padZL_length, hn2]; show s.size + 1 + (z + 1) = _; omega
        rw [e4]
        exact hown3
      obtain ⟨ao3, cap3, hv3⟩ := own_slice o3
      have hl3 : (padZL s.data.toList (z + 1)).length = n + 1 := by rw [padZL_length, hn2]; show s.size + 1 + (z + 1) = _; omega
      clear hgrow3 hown3 hown hb hn2
      go_wp2
      go_roundw
      case rel => exact ⟨z + 1, by have := HN.out.2; omega, o3, b3⟩
      case measure => subst hv3; simp [hl3]; omega
    · have t1 : ¬ ((n : Int) < (m : Int) - 8) := by omega
      have hzz : z = zerosOf s.data.toList.length := by
        show z = zerosOf s.size
        unfold zerosOf
        have := HM.out
        omega
      have hnl : n = (padZL s.data.toList z).length := HN.out.1
      have e8 : 8 * (s.size : Int) = ((8 * s.data.toList.length : Nat) : Int) := by show _ = ((8 * s.size : Nat) : Int); omega
      have e8k : (8 : Int) = ((8 : Nat) : Int) := rfl
      obtain ⟨N, hN⟩ : ∃ N, N = 8 * s.data.toList.length := ⟨_, rfl⟩
      have hN2 : N = 8 * s.size := hN
      rw [← hN] at e8
      have HE : Hid (N = 8 * s.data.toList.length ∧ z = zerosOf s.data.toList.length ∧ N = 8 * s.size) := ⟨hN, hzz, hN2⟩
      clear hN hN2 hzz e8k hln e3 hnl
      go_wp2_with fail
      refine (withNumber_any w.heap.size N 8 (padZL s.data.toList z) _ _ (by have := HE.out.2.2; omega) (by omega) (by have := padZL_length s.data.toList z; have h5 : s.data.toList.length = s.size := rfl; omega) hbs (by rw [← HN.out.1]; exact hown)).mono ?_
      rintro e w4 ⟨v4, rfl, hown4, hb4⟩
      have hcv : (convert 22 9 v4).run Tryd.prog w4 = .ok (.string ⟨(padZL s.data.toList z ++ beN 8 N).toArray⟩) w4 := by
        have : w4.ownsRow w.heap.size 5 1 v4 (padZL s.data.toList z ++ beN 8 N).length (bytesV (padZL s.data.toList z ++ beN 8 N)) := by
          rw [List.length_append, beN_length]; exact hown4
        exact own_convert (P := Tryd.prog) this Tryd.underlying22 Tryd.underlying5 Tryd.underlying9
      have hb' := hb.trans hb4
      clear hown4 hb4 hb hown
      go_wp2
      go_ret
      refine ⟨?_, hb'⟩
      rw [padL_eq, ← HE.out.1, ← HE.out.2.1]
      rfl

end Go.Proofs.YtfbdbeaijkhbfaaDoor
