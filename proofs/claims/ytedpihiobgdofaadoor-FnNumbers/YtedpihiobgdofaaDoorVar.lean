/- What spec.l01Var and impl.VarText answer at every number: the bytes V of the number where it is in 0 .. MaxNumber, else nothing and false. -/
import Derived.Test.YtedpihiobgdofaaDoorInfoB
import Derived.Test.YtedpihiobgdofaaDoorRows
import Derived.Test.YtedpihiobgdofaaDoorBase
import Derived.WalkKit
import Derived.WalkSpells
namespace Go.Proofs.YtedpihiobgdofaaDoor
open Go.RowKit

set_option maxHeartbeats 800000 in
theorem iVarText_in (n0 : Nat) (w : World) (hn : n0 ≤ 1000000000) :
    Calls Tryd.prog 6 #[.int .i64 n0] w fun e w' => e = .returned (.tuple #[.string ⟨(V n0).toArray⟩, .bool true]) ∧ Below w.heap.size w w' := by
  obtain ⟨i0, hi, hz0, hz1, hz2⟩ := info_parts Tryd.infoB
  go_enter Tryd.func6, Tryd.ntmps6
  go_wp2
  go_loopw [0, 4] (fun n v wr => ∃ (m : Nat) (l : List UInt8), n = .int .i64 m ∧ l.length + m ≤ n0 ∧ Hid (V n0 = l ++ V m) ∧ wr.ownsRow w.heap.size 5 1 v l.length (bytesV l) ∧ Below w.heap.size w wr)
    (fun n _ _ => (intOf n).toNat)
  case atStart => exact ⟨n0, [], rfl, by simp, by simp [Hid], World.ownsRow_nil _ _ _ _, Below.refl _ _⟩
  case round =>
    obtain ⟨m, l, rfl, hm, hV, hown, hb⟩ := hrel
    have hbs := hb.size
    by_cases h : 127 < m
    · go_wp2_with (at_builtin; refine wpList_append_own _ rfl _ _ 22 rfl w.heap.size 5 i0 (.int .u8 0) 1 1 Tryd.underlying22 hi hz0 hz1 hz2 rfl (by decide) _ _ _ rfl (hown.alloc _) ⟨wr.heap.size, 0, none⟩ 1 1 [.int .u8 ((m : Int) % 128 + 128)] rfl rfl ?c1 ?c2 ?c3 ?c4 ?c5 ?_)
      case c1 => exact cell_one_new _ _ _
      case c2 => intro u hu; simp at hu; subst hu; rfl
      case c3 => unfold maxLen; omega
      case c4 => omega
      case c5 => simp; omega
      · intro v' w1 hown' hgrow _
        rw [bytesV_push l (UInt8.ofNat (m % 128 + 128)) _ (by rw [← byte_of _ (by omega)]; omega)] at hown'
        have hb' : Below w.heap.size w w1 := (hb.alloc hbs _).grown hgrow (by simp; omega) (fun k hk => (hown.lt k hk).1)
        clear hgrow hown hb
        go_wp2
        go_roundw
        case rel => exact ⟨m / 128, l ++ [UInt8.ofNat (m % 128 + 128)], by go_num, by simp; omega, by unfold Hid; rw [hV.out, V_big m h]; simp, by simpa using hown', hb'⟩
        case measure => simp [intOf]; omega
    · go_wp2_with (at_builtin; refine wpList_append_own _ rfl _ _ 22 rfl w.heap.size 5 i0 (.int .u8 0) 1 1 Tryd.underlying22 hi hz0 hz1 hz2 rfl (by decide) _ _ _ rfl (hown.alloc _) ⟨wr.heap.size, 0, none⟩ 1 1 [.int .u8 (m : Int)] rfl rfl ?d1 ?d2 ?d3 ?d4 ?d5 ?_)
      case d1 => exact cell_one_new _ _ _
      case d2 => intro u hu; simp at hu; subst hu; rfl
      case d3 => unfold maxLen; omega
      case d4 => omega
      case d5 => simp; omega
      · intro v' w1 hown' hgrow _
        rw [bytesV_push l (UInt8.ofNat m) _ (by rw [← byte_of _ (by omega)])] at hown'
        have hb' : Below w.heap.size w w1 := (hb.alloc hbs _).grown hgrow (by simp; omega) (fun k hk => (hown.lt k hk).1)
        have hcv := own_convert (P := Tryd.prog) hown' Tryd.underlying22 Tryd.underlying5 Tryd.underlying9
        clear hgrow hown hb hown'
        go_wp2
        go_ret2
        exact ⟨by rw [hV.out, V_small m (by omega)]; rfl, hb'⟩

theorem iVarText_out (n : Int) (w : World) (hn : n < 0 ∨ 1000000000 < n) :
    Calls Tryd.prog 6 #[.int .i64 n] w fun e w' => e = .returned (.tuple #[.string ⟨#[]⟩, .bool false]) ∧ Below w.heap.size w w' := by
  by_cases h0 : n < 0
  · go_enter Tryd.func6, Tryd.ntmps6
    go_wp2
    go_ret2
    exact ⟨rfl, Below.refl _ _⟩
  · have h1 : 1000000000 < n := by omega
    go_enter Tryd.func6, Tryd.ntmps6
    go_wp2
    go_ret2
    exact ⟨rfl, Below.refl _ _⟩

end Go.Proofs.YtedpihiobgdofaaDoor
