/- What impl.Unhex answers at every text. -/
import Derived.Test.YtedpihiobgdofaaDoorVar
import Derived.Test.YtedpihiobgdofaaDoorNumIn
import Derived.Test.YtedpihiobgdofaaDoorUnhexMath
import Derived.WalkKit
import Derived.WalkSpells
namespace Go.Proofs.YtedpihiobgdofaaDoor
open Go.RowKit
set_option linter.unusedVariables false

theorem iUnhex_out (s : ByteArray) (w : World) (hn : 40000 < s.size ∨ ¬ s.size % 2 = 0) (hs : s.size ≤ 1048576) :
    Calls Tryd.prog 14 #[.string s] w fun e w' => e = .returned (unV none) ∧ Below w.heap.size w w' := by
  by_cases h : s.size % 2 = 0
  · have h4 : 40000 < s.size := by omega
    have hq : ((s.size : Int) % 2 != 0) = false := by simp; omega
    clear h
    go_enter Tryd.func14, Tryd.ntmps14
    go_wp2
    go_ret2
    exact ⟨rfl, Below.refl _ _⟩
  · have hq : ((s.size : Int) % 2 != 0) = true := by simp; omega
    go_enter Tryd.func14, Tryd.ntmps14
    go_wp2
    go_ret2
    exact ⟨rfl, Below.refl _ _⟩

set_option maxRecDepth 100000 in
set_option maxHeartbeats 2000000 in
theorem iUnhex_in (s : ByteArray) (w : World) (hn : s.size ≤ 40000) (hev : s.size % 2 = 0) :
    Calls Tryd.prog 14 #[.string s] w fun e w' => e = .returned (unV (unhexA s.data.toList [])) ∧ Below w.heap.size w w' := by
  obtain ⟨i0, hi, hz0, hz1, hz2⟩ := info_parts Tryd.infoB
  have HEV : Hid (s.size % 2 = 0) := hev
  have hq : ((s.size : Int) % 2 != 0) = false := by simp; omega
  clear hev
  go_enter Tryd.func14, Tryd.ntmps14
  go_wp2_with (at_make; refine wpList_make_own _ rfl _ _ 22 rfl w.heap.size 5 i0 (.int .u8 0) 1 Tryd.underlying22 hi hz0 hz1 _ _ _ (s.size / 2) rfl rfl (by omega) (by rw [hz2]; omega) (by unfold maxLen; omega) (Nat.le_refl _) ?_; intro w0 hown0 hgrow0)
  have hb0 : Below w.heap.size w w0 := (Below.refl _ _).grown hgrow0 (Nat.le_refl _) (fun k hk => by cases hk)
  go_loopw [4, 5] (fun v i wr => ∃ (k : Nat) (l : List UInt8), i = .int .i64 k ∧ k ≤ s.size ∧ l.length ≤ k ∧ Hid (k % 2 = 0) ∧ Hid (US s.data.toList k l) ∧ wr.ownsRow w.heap.size 5 1 v l.length (bytesV l) ∧ Below w.heap.size w wr)
    (fun _ i _ => s.size - (intOf i).toNat)
  case atStart => exact ⟨0, [], rfl, by omega, by simp, by unfold Hid; rfl, US.start _, hown0, hb0⟩
  case round =>
    obtain ⟨k, l, rfl, hk, hl, hke, hU, hown, hb⟩ := hrel
    have hbs := hb.size
    by_cases hlt : k < s.size
    · have hlt1 : k + 1 < s.size := by have := HEV.out; have := hke.out; omega
      have hll : k + 1 < s.data.toList.length := by simpa using hlt1
      have k2 : (k : Int) + 2 ≤ (s.size : Int) := by omega
      have HT : Hid ((s.extract k (k + 2)).data.toList = [s[k], s[k + 1]]) := extract_two s k hlt1
      have hts : (s.extract k (k + 2)).size ≤ 14 := by
        have := congrArg List.length HT.out
        simp at this ⊢
        omega
      cases fx : fig 16 s[k] with
      | none =>
        have e : Hid (unhexA s.data.toList [] = none) := hU.out.none1 hll fx
        have v1 : Hid (numF 16 (s.extract k (k + 2)).data.toList 0 = none) := by unfold Hid; rw [HT.out, num_two, fx]
        clear hU fx
        go_wp2_with fail
        refine (numberIn_any (s.extract k (k + 2)) 16 _ hts (by omega)).mono ?_
        rintro e1 w1 ⟨rfl, hb1⟩
        rw [v1.out]
        unfold numV
        go_wp2
        go_ret2
        exact ⟨by rw [e.out]; rfl, hb.trans (hb1.mono hbs)⟩
      | some a =>
        have ha := fig_lt _ _ fx
        cases fy : fig 16 s[k + 1] with
        | none =>
          have e : Hid (unhexA s.data.toList [] = none) := hU.out.none2 hll fx fy
          have v1 : Hid (numF 16 (s.extract k (k + 2)).data.toList 0 = none) := by unfold Hid; rw [HT.out, num_two, fx, fy]
          clear hU fx fy
          go_wp2_with fail
          refine (numberIn_any (s.extract k (k + 2)) 16 _ hts (by omega)).mono ?_
          rintro e1 w1 ⟨rfl, hb1⟩
          rw [v1.out]
          unfold numV
          go_wp2
          go_ret2
          exact ⟨by rw [e.out]; rfl, hb.trans (hb1.mono hbs)⟩
        | some b =>
          have hbb := fig_lt _ _ fy
          have hU' : Hid (US s.data.toList (k + 2) (l ++ [UInt8.ofNat (16 * a + b)])) := hU.out.next hll fx fy
          obtain ⟨c, hc⟩ : ∃ c, c = 16 * a + b := ⟨_, rfl⟩
          have v1 : Hid (numF 16 (s.extract k (k + 2)).data.toList 0 = some c) := by unfold Hid; rw [HT.out, num_two, fx, fy, hc]
          have hcl : c < 256 := by omega
          rw [← hc] at hU'
          clear hU fx fy hc
          go_wp2_with fail
          refine (numberIn_any (s.extract k (k + 2)) 16 _ hts (by omega)).mono ?_
          rintro e1 w1 ⟨rfl, hb1⟩
          rw [v1.out]
          unfold numV
          have hown1 : w1.ownsRow w.heap.size 5 1 _ l.length (bytesV l) := own_below hown hb1
          have hb2 : Below w.heap.size w w1 := hb.trans (hb1.mono hbs)
          have hbs2 := hb2.size
          clear hb1
          go_wp2_with (at_builtin; refine wpList_append_own _ rfl _ _ 22 rfl w.heap.size 5 i0 (.int .u8 0) 1 1 Tryd.underlying22 hi hz0 hz1 hz2 rfl (by decide) _ _ _ rfl (hown1.alloc _) ⟨w1.heap.size, 0, none⟩ 1 1 [.int .u8 (c : Int)] rfl rfl ?c1 ?c2 ?c3 ?c4 ?c5 ?_)
          case c1 => exact cell_one_new _ _ _
          case c2 => intro u hu; simp at hu; subst hu; rfl
          case c3 => unfold maxLen; omega
          case c4 => omega
          case c5 => simp; omega
          · intro v' w2 hown' hgrow _
            rw [bytesV_push l (UInt8.ofNat c) _ (by rw [← byte_of _ (by omega)])] at hown'
            have hb' : Below w.heap.size w w2 := (hb2.alloc hbs2 _).grown hgrow (by simp; omega) (fun x hx => (hown1.lt x hx).1)
            clear hgrow hown hb hown1 hb2
            go_wp2
            go_roundw
            case rel => first | exact ⟨k + 2, l ++ [UInt8.ofNat c], by go_num, by omega, by simp; omega, by have := hke.out; unfold Hid; omega, hU', by simpa using hown', hb'⟩ | ((repeat apply Exists.intro); exact ⟨⟨k + 2, l ++ [UInt8.ofNat c], by go_num, by omega, by simp; omega, by have := hke.out; unfold Hid; omega, hU', by simpa using hown', hb'⟩, rfl⟩)
            case measure => simp [intOf]; omega
    · have hcv := own_convert (P := Tryd.prog) hown Tryd.underlying22 Tryd.underlying5 Tryd.underlying9
      have e : Hid (unhexA s.data.toList [] = some l) := hU.out.done (by simp; omega)
      clear hown hU
      go_wp2
      go_ret2
      exact ⟨by rw [e.out]; rfl, hb⟩

end Go.Proofs.YtedpihiobgdofaaDoor
