/- What spec.Unhex answers at every text. -/
import Derived.Test.YtedpihiobgdofakVar
import Derived.Test.YtedpihiobgdofakUnhexMath
import Derived.WalkKit
import Derived.WalkSpells
namespace Go.Proofs.Ytedpihiobgdofak
open Go.RowKit
set_option linter.unusedVariables false

theorem fig_cases (b : UInt8) : (fig 16 b = some (b.toNat - 48) ∧ 48 ≤ b.toNat ∧ b.toNat ≤ 57) ∨ (fig 16 b = some (b.toNat - 87) ∧ 97 ≤ b.toNat ∧ b.toNat ≤ 102) ∨ (fig 16 b = none ∧ ¬ (48 ≤ b.toNat ∧ b.toNat ≤ 57) ∧ ¬ (97 ≤ b.toNat ∧ b.toNat ≤ 102)) := by
  unfold fig
  by_cases h1 : 48 ≤ b.toNat ∧ b.toNat ≤ 57
  · left; rw [if_pos (by omega)]; exact ⟨rfl, h1⟩
  · right
    by_cases h2 : 97 ≤ b.toNat ∧ b.toNat ≤ 102
    · left; rw [if_neg (by omega), if_pos (by omega)]; exact ⟨rfl, h2⟩
    · right; rw [if_neg (by omega), if_neg (by omega)]; exact ⟨rfl, h1, h2⟩

def valI (b : UInt8) : Int := match fig 16 b with
  | none => -1
  | some d => (d : Int)

theorem value_any (b : UInt8) (w : World) :
    Calls Try.prog 23 #[.int .u8 (b.toNat : Int)] w fun e w' => e = .returned (.int .i64 (valI b)) ∧ w = w' := by
  obtain ⟨x, hx⟩ : ∃ x, x = b.toNat := ⟨_, rfl⟩
  have hlt : b.toNat < 256 := b.toNat_lt
  rcases fig_cases b with ⟨hf, h1, h2⟩ | ⟨hf, h1, h2⟩ | ⟨hf, h1, h2⟩
  · have hv : Hid (valI b = (x : Int) - 48) := by unfold Hid valI; rw [hf, hx]; simp; omega
    rw [← hx] at h1 h2 hlt ⊢
    clear hf hx
    go_enter Try.func23, Try.ntmps23
    go_wp2
    go_ret
    exact ⟨by rw [hv.out]; rfl, rfl⟩
  · have hv : Hid (valI b = (x : Int) - 97 + 10) := by unfold Hid valI; rw [hf, hx]; simp; omega
    rw [← hx] at h1 h2 hlt ⊢
    clear hf hx
    have d1 : decide ((x : Int) ≤ 57) = false := by simp; omega
    go_enter Try.func23, Try.ntmps23
    go_wp2
    go_ret
    exact ⟨by rw [hv.out]; rfl, rfl⟩
  · have hv : Hid (valI b = -1) := by unfold Hid valI; rw [hf]
    rw [← hx] at h1 h2 hlt ⊢
    clear hf hx
    by_cases c1 : x < 48
    · go_enter Try.func23, Try.ntmps23
      go_wp2
      go_ret
      exact ⟨by rw [hv.out]; rfl, rfl⟩
    · have d1 : decide ((x : Int) ≤ 57) = false := by simp; omega
      by_cases c2 : x < 97
      · go_enter Try.func23, Try.ntmps23
        go_wp2
        go_ret
        exact ⟨by rw [hv.out]; rfl, rfl⟩
      · go_enter Try.func23, Try.ntmps23
        go_wp2
        go_ret
        exact ⟨by rw [hv.out]; rfl, rfl⟩

theorem sUnhex_out (s : ByteArray) (w : World) (hn : 40000 < s.size ∨ ¬ s.size % 2 = 0) (hs : s.size ≤ 1048576) :
    Calls Try.prog 16 #[.string s] w fun e w' => e = .returned (unV none) ∧ Below w.heap.size w w' := by
  by_cases h : 40000 < s.size
  · go_enter Try.func16, Try.ntmps16
    go_wp2
    go_ret2
    exact ⟨rfl, Below.refl _ _⟩
  · have d1 : decide (40000 < (s.size : Int)) = false := by simp; omega
    have hq : ((s.size : Int) % 2 != 0) = true := by simp; omega
    go_enter Try.func16, Try.ntmps16
    go_wp2
    go_ret2
    exact ⟨rfl, Below.refl _ _⟩

set_option maxRecDepth 100000 in
set_option maxHeartbeats 2000000 in
theorem sUnhex_in (s : ByteArray) (w : World) (hn : s.size ≤ 40000) (hev : s.size % 2 = 0) :
    Calls Try.prog 16 #[.string s] w fun e w' => e = .returned (unV (unhexA s.data.toList [])) ∧ Below w.heap.size w w' := by
  obtain ⟨i0, hi, hz0, hz1, hz2⟩ := info_parts Try.infoB
  have HEV : Hid (s.size % 2 = 0) := hev
  have d1 : decide (40000 < (s.size : Int)) = false := by simp; omega
  have hq : ((s.size : Int) % 2 != 0) = false := by simp; omega
  clear hev
  go_enter Try.func16, Try.ntmps16
  go_wp2
  go_loopw [4, 5] (fun v i wr => ∃ (k : Nat) (l : List UInt8), i = .int .i64 k ∧ k ≤ s.size ∧ l.length ≤ k ∧ Hid (k % 2 = 0) ∧ Hid (US s.data.toList k l) ∧ wr.ownsRow w.heap.size 5 1 v l.length (bytesV l) ∧ Below w.heap.size w wr)
    (fun _ i _ => s.size - (intOf i).toNat)
  case atStart => exact ⟨0, [], rfl, by omega, by simp, by unfold Hid; rfl, US.start _, World.ownsRow_lit (e := 5) (size := 1) w #[] 0 (Nat.le_refl _) (by decide) rfl, (Below.refl _ _).alloc (Nat.le_refl _) _⟩
  case round =>
    obtain ⟨k, l, rfl, hk, hl, hke, hU, hown, hb⟩ := hrel
    have hbs := hb.size
    by_cases hlt : k < s.size
    · have hlt1 : k + 1 < s.size := by have := HEV.out; have := hke.out; omega
      have hll : k + 1 < s.data.toList.length := by simpa using hlt1
      have k2 : (k : Int) + 1 < (s.size : Int) := by omega
      cases fx : fig 16 s[k] with
      | none =>
        have e : Hid (unhexA s.data.toList [] = none) := hU.out.none1 hll fx
        have v1 : Hid (valI s[k] = -1) := by unfold Hid valI; rw [fx]
        clear hU hll fx
        go_wp2_with fail
        refine (value_any s[k] _).mono ?_
        rintro e1 w1 ⟨rfl, rfl⟩
        rw [v1.out]
        go_wp2_with fail
        refine (value_any s[k + 1] _).mono ?_
        rintro e1 w1 ⟨rfl, rfl⟩
        go_wp2
        go_ret2
        exact ⟨by rw [e.out]; rfl, hb⟩
      | some a =>
        have v1 : Hid (valI s[k] = (a : Int)) := by unfold Hid valI; rw [fx]
        have ha := fig_lt _ _ fx
        cases fy : fig 16 s[k + 1] with
        | none =>
          have e : Hid (unhexA s.data.toList [] = none) := hU.out.none2 hll fx fy
          have v2 : Hid (valI s[k + 1] = -1) := by unfold Hid valI; rw [fy]
          clear hU fx fy
          go_wp2_with fail
          refine (value_any s[k] _).mono ?_
          rintro e1 w1 ⟨rfl, rfl⟩
          rw [v1.out]
          go_wp2_with fail
          refine (value_any s[k + 1] _).mono ?_
          rintro e1 w1 ⟨rfl, rfl⟩
          rw [v2.out]
          go_wp2
          go_ret2
          exact ⟨by rw [e.out]; rfl, hb⟩
        | some b =>
          have v2 : Hid (valI s[k + 1] = (b : Int)) := by unfold Hid valI; rw [fy]
          have hbb := fig_lt _ _ fy
          have hU' : Hid (US s.data.toList (k + 2) (l ++ [UInt8.ofNat (16 * a + b)])) := hU.out.next hll fx fy
          clear hU fx fy
          go_wp2_with fail
          refine (value_any s[k] _).mono ?_
          rintro e1 w1 ⟨rfl, rfl⟩
          rw [v1.out]
          go_wp2_with fail
          refine (value_any s[k + 1] _).mono ?_
          rintro e1 w1 ⟨rfl, rfl⟩
          rw [v2.out]
          go_wp2_with (at_builtin; refine wpList_append_own _ rfl _ _ 34 rfl w.heap.size 5 i0 (.int .u8 0) 1 1 Try.underlying34 hi hz0 hz1 hz2 rfl (by decide) _ _ _ rfl (hown.alloc _) ⟨wr.heap.size, 0, none⟩ 1 1 [.int .u8 (16 * (a : Int) + (b : Int))] rfl rfl ?c1 ?c2 ?c3 ?c4 ?c5 ?_)
          case c1 => exact cell_one_new _ _ _
          case c2 => intro u hu; simp at hu; subst hu; rfl
          case c3 => unfold maxLen; omega
          case c4 => omega
          case c5 => simp; omega
          · intro v' w1 hown' hgrow _
            rw [bytesV_push l (UInt8.ofNat (16 * a + b)) _ (by rw [← byte_of _ (by omega)]; omega)] at hown'
            have hb' : Below w.heap.size w w1 := (hb.alloc hbs _).grown hgrow (by simp; omega) (fun x hx => (hown.lt x hx).1)
            clear hgrow hown hb
            go_wp2
            go_roundw
            case rel => first | exact ⟨k + 2, l ++ [UInt8.ofNat (16 * a + b)], by go_num, by omega, by simp; omega, by have := hke.out; unfold Hid; omega, hU', by simpa using hown', hb'⟩ | ((repeat apply Exists.intro); exact ⟨⟨k + 2, l ++ [UInt8.ofNat (16 * a + b)], by go_num, by omega, by simp; omega, by have := hke.out; unfold Hid; omega, hU', by simpa using hown', hb'⟩, rfl⟩)
            case measure => simp [intOf]; omega
    · have hcv := own_convert (P := Try.prog) hown Try.underlying34 Try.underlying5 Try.underlying9
      have e : Hid (unhexA s.data.toList [] = some l) := hU.out.done (by simp; omega)
      clear hown hU
      go_wp2
      go_ret2
      exact ⟨by rw [e.out]; rfl, hb⟩

end Go.Proofs.Ytedpihiobgdofak
