/- What spec.PartsOf answers at every line. -/
import Derived.Test.YtedpihiobgdofalDoorRows
import Derived.Test.YtedpihiobgdofalDoorPartsMath
import Derived.WalkKit
import Derived.WalkSpells
namespace Go.Proofs.YtedpihiobgdofalDoor
open Go.RowKit
set_option linter.unusedVariables false

theorem Tryd.infoS : (Tryd.prog.info? 9).map (fun i => (i.zero, i.size, i.bytes)) = some (some (.string ByteArray.empty), 1, 16) := by kernel_rfl

/-- The answer's make: the parts lie in a row of the call's own. -/
def Answers (l : List UInt8) (w : World) (e : Ending) (w' : World) : Prop :=
  ∃ v, e = .returned (.tuple #[v, .bool (PO l).isSome]) ∧ w'.ownsRow w.heap.size 9 1 v (partsL (PO l)).length (strsV (partsL (PO l))) ∧ Below w.heap.size w w'

theorem sPO_long (s : ByteArray) (w : World) (h : 600 < s.size) : Calls Tryd.prog 4 #[.string s] w (Answers s.data.toList w) := by
  have e : Hid (PO s.data.toList = none) := PO_long _ (by simpa using h)
  go_enter Tryd.func4, Tryd.ntmps4
  go_wp2
  go_ret2
  refine ⟨.slice (some ⟨w.heap.size, 0, none⟩) 0 0, ?_, ?_, (Below.refl _ _).alloc (Nat.le_refl _) _⟩
  · rw [e.out]; rfl
  · rw [e.out]; exact World.ownsRow_lit (e := 9) (size := 1) w #[] 0 (Nat.le_refl _) (by decide) rfl

set_option maxRecDepth 100000 in
set_option maxHeartbeats 2000000 in
theorem sPO_short (s : ByteArray) (w : World) (hs : s.size ≤ 600) : Calls Tryd.prog 4 #[.string s] w (Answers s.data.toList w) := by
  obtain ⟨i0, hi, hz0, hz1, hz2⟩ := info_parts Tryd.infoS
  have hlen : s.data.toList.length = s.size := by simp
  go_enter Tryd.func4, Tryd.ntmps4
  go_wp2
  go_loopw [4, 5, 6] (fun v b i wr => ∃ (k c : Nat) (out : List (List UInt8)), i = .int .i64 k ∧ b = .int .i64 c ∧ k ≤ s.size + 1 ∧ c ≤ 602 ∧ out.length ≤ k ∧ Hid (PS s.data.toList k c out) ∧ wr.ownsRow w.heap.size 9 1 v out.length (strsV out) ∧ Below w.heap.size w wr)
    (fun _ _ i _ => s.size + 1 - (intOf i).toNat)
  case atStart => exact ⟨0, 0, [], rfl, rfl, by omega, by omega, by simp, PS.start _, World.ownsRow_lit (e := 9) (size := 1) w #[] 0 (Nat.le_refl _) (by decide) rfl, (Below.refl _ _).alloc (Nat.le_refl _) _⟩
  case round =>
    obtain ⟨k, c, out, rfl, rfl, hk, hc, hol, hP, hown, hb⟩ := hrel
    have hbs := hb.size
    by_cases hle : k ≤ s.size
    · have hck : c ≤ k := (hP.out.mid (by omega)).1
      by_cases hlt : k < s.size
      · have hx : s[k].toNat < 256 := s[k].toNat_lt
        have hll : k < s.data.toList.length := by omega
        by_cases hbad : s[k].toNat < 32 ∨ 126 < s[k].toNat
        · have e : Hid (PO s.data.toList = none) := PO_bad _ k hll (by show okB s[k] = false; unfold okB; rcases hbad with h | h <;> simp <;> omega)
          clear hP hown
          have fin : ∀ (a : Ending), a = .returned (.tuple #[.slice (some ⟨wr.heap.size, 0, none⟩) 0 0, .bool false]) → Answers s.data.toList w a (wr.alloc (.cells #[] 9)) := by
            intro a ha
            refine ⟨.slice (some ⟨wr.heap.size, 0, none⟩) 0 0, ?_, ?_, hb.alloc hbs _⟩
            · rw [e.out]; exact ha
            · rw [e.out]; exact World.ownsRow_lit (base := w.heap.size) (e := 9) (size := 1) wr #[] 0 hbs (by decide) rfl
          have FIN : Hid (∀ (a : Ending), a = .returned (.tuple #[.slice (some ⟨wr.heap.size, 0, none⟩) 0 0, .bool false]) → Answers s.data.toList w a (wr.alloc (.cells #[] 9))) := fin
          clear fin
          by_cases h1 : s[k].toNat < 32
          · go_wp2
            go_ret2
            exact FIN.out _ rfl
          · have h2 : 126 < s[k].toNat := by omega
            have d1 : decide ((s[k].toNat : Int) < 32) = false := by simp; omega
            go_wp2
            go_ret2
            exact FIN.out _ rfl
        · have hok : okB s.data.toList[k] = true := by show okB s[k] = true; unfold okB; simp; omega
          have d1 : decide ((s[k].toNat : Int) < 32) = false := by simp; omega
          have d2 : decide ((126 : Int) < (s[k].toNat : Int)) = false := by simp; omega
          by_cases h32 : s[k].toNat = 32
          · have hq : ((s[k].toNat : Int) != 32) = false := by simp [h32]
            by_cases hcl : c < k
            · have hP' : Hid (PS s.data.toList (k + 1) (k + 1) (out ++ [cur s.data.toList c k])) := hP.out.part hll hok h32 hcl
              have HX := extract_cur s c k
              have HXX : Hid (s.extract c k = ⟨(cur s.data.toList c k).toArray⟩) := HX
              clear hP HX h32 hok
              go_wp2_with (at_builtin; refine wpList_append_own _ rfl _ _ 22 rfl w.heap.size 9 i0 (.string ByteArray.empty) 1 16 Tryd.underlying22 hi hz0 hz1 hz2 rfl (by decide) _ _ _ rfl (hown.alloc _) ⟨wr.heap.size, 0, none⟩ 1 1 [.string (s.extract c k)] rfl rfl ?c1 ?c2 ?c3 ?c4 ?c5 ?_)
              case c1 => exact cell_one_new _ _ _
              case c2 => intro u hu; simp at hu; subst hu; rfl
              case c3 => unfold maxLen; omega
              case c4 => omega
              case c5 => simp; omega
              · intro v' w1 hown' hgrow _
                rw [HXX.out, strsV_snoc] at hown'
                have hb' : Below w.heap.size w w1 := (hb.alloc hbs _).grown hgrow (by simp; omega) (fun x hx => (hown.lt x hx).1)
                clear hgrow hown hb
                go_wp2
                go_roundw
                case rel => first | exact ⟨k + 1, k + 1, _, by go_num, by go_num, by omega, by omega, by simp; omega, hP', by simpa using hown', hb'⟩ | ((repeat apply Exists.intro); exact ⟨⟨k + 1, k + 1, _, by go_num, by go_num, by omega, by omega, by simp; omega, hP', by simpa using hown', hb'⟩, rfl⟩)
                case measure => simp [intOf]; omega
            · have hP' : Hid (PS s.data.toList (k + 1) (k + 1) out) := hP.out.blank hll hok h32 hcl
              clear hP h32 hok
              go_wp2
              go_roundw
              case rel => exact ⟨k + 1, k + 1, out, by go_num, by go_num, by omega, by omega, by omega, hP', hown, hb⟩
              case measure => simp [intOf]; omega
          · have hq : ((s[k].toNat : Int) != 32) = true := by simp; omega
            have hP' : Hid (PS s.data.toList (k + 1) c out) := hP.out.more hll hok h32
            clear hP hok
            go_wp2
            go_roundw
            case rel => exact ⟨k + 1, c, out, by go_num, rfl, by omega, by omega, by omega, hP', hown, hb⟩
            case measure => simp [intOf]; omega
      · have hks : k = s.size := by omega
        have d0 : decide ((k : Int) < (s.size : Int)) = false := by simp; omega
        by_cases hcl : c < k
        · have hP' : Hid (PS s.data.toList (k + 1) (k + 1) (out ++ [cur s.data.toList c k])) := hP.out.endPart (by omega) hcl
          have HX := extract_cur s c k
          have HXX : Hid (s.extract c k = ⟨(cur s.data.toList c k).toArray⟩) := HX
          have hks' : k ≤ s.size := by omega
          clear hP HX hks
          go_wp2_with (at_builtin; refine wpList_append_own _ rfl _ _ 22 rfl w.heap.size 9 i0 (.string ByteArray.empty) 1 16 Tryd.underlying22 hi hz0 hz1 hz2 rfl (by decide) _ _ _ rfl (hown.alloc _) ⟨wr.heap.size, 0, none⟩ 1 1 [.string (s.extract c k)] rfl rfl ?e1 ?e2 ?e3 ?e4 ?e5 ?_)
          case e1 => exact cell_one_new _ _ _
          case e2 => intro u hu; simp at hu; subst hu; rfl
          case e3 => unfold maxLen; omega
          case e4 => omega
          case e5 => simp; omega
          · intro v' w1 hown' hgrow _
            rw [HXX.out, strsV_snoc] at hown'
            have hb' : Below w.heap.size w w1 := (hb.alloc hbs _).grown hgrow (by simp; omega) (fun x hx => (hown.lt x hx).1)
            clear hgrow hown hb
            go_wp2
            go_roundw
            case rel => first | exact ⟨k + 1, k + 1, _, by go_num, by go_num, by omega, by omega, by simp; omega, hP', by simpa using hown', hb'⟩ | ((repeat apply Exists.intro); exact ⟨⟨k + 1, k + 1, _, by go_num, by go_num, by omega, by omega, by simp; omega, hP', by simpa using hown', hb'⟩, rfl⟩)
            case measure => simp [intOf]; omega
        · have hP' : Hid (PS s.data.toList (k + 1) (k + 1) out) := hP.out.endNone (by omega) hcl
          have hks' : k ≤ s.size := by omega
          clear hP hks
          go_wp2
          go_roundw
          case rel => exact ⟨k + 1, k + 1, out, by go_num, by go_num, by omega, by omega, by omega, hP', hown, hb⟩
          case measure => simp [intOf]; omega
    · obtain ⟨hf, hall⟩ := hP.out.done (by omega)
      by_cases hmany : 10 < out.length
      · have e : Hid (PO s.data.toList = none) := PO_many _ (by rw [hf]; exact hmany)
        have hv : ∃ a cap, u4 = .slice a out.length cap := by
          rcases hown.2 with ⟨rfl, h0⟩ | ⟨g, cap, _, rfl, _⟩
          · exact ⟨none, 0, by rw [h0]⟩
          · exact ⟨_, _, rfl⟩
        obtain ⟨a, cap, rfl⟩ := hv
        clear hP hf hall
        go_wp2
        go_ret2
        refine ⟨.slice (some ⟨wr.heap.size, 0, none⟩) 0 0, ?_, ?_, hb.alloc hbs _⟩
        · rw [e.out]; rfl
        · rw [e.out]; exact World.ownsRow_lit (base := w.heap.size) (e := 9) (size := 1) wr #[] 0 hbs (by decide) rfl
      · have e : Hid (PO s.data.toList = some out) := by unfold Hid; rw [PO_some _ (by omega) hall (by rw [hf]; omega), hf]
        have hown0 := hown
        have hv : ∃ a cap, u4 = .slice a out.length cap := by
          rcases hown.2 with ⟨rfl, h0⟩ | ⟨g, cap, _, rfl, _⟩
          · exact ⟨none, 0, by rw [h0]⟩
          · exact ⟨_, _, rfl⟩
        obtain ⟨a, cap, rfl⟩ := hv
        clear hP hf hall
        go_wp2
        go_ret2
        refine ⟨.slice a out.length cap, ?_, ?_, hb⟩
        · rw [e.out]; rfl
        · rw [e.out]; exact hown0

end Go.Proofs.YtedpihiobgdofalDoor
