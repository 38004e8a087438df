/- What impl.PartsOf answers at every line, where the library's table of blanks holds what its text lays. -/
import Derived.Test.YtedpihiobgdofalDoorPartsS
import Derived.Test.YtedpihiobgdofalDoorShelf
import Derived.WalkKit
import Derived.WalkSpells
namespace Go.Proofs.YtedpihiobgdofalDoor
open Go.RowKit
set_option linter.unusedVariables false

theorem clone_any (s : ByteArray) (w : World) (hlim : s.size ≤ 281474976710656) :
    Calls Tryd.prog 10 #[.string s] w fun e w' => e = .returned (.string s) ∧ Below w.heap.size w w' := by
  go_enter Tryd.func10, Tryd.ntmps10
  go_wp2_with fail
  refine (Tryd.stringslite_Clone _ _ hlim).mono ?_
  rintro e w' ⟨rfl, hb⟩
  go_wp2
  go_ret
  exact ⟨rfl, hb⟩

theorem answers_none (l : List UInt8) (w wr : World) (e : Ending) (h : PO l = none) (he : e = .returned (.tuple #[.slice none 0 0, .bool false])) (hb : Below w.heap.size w wr) : Answers l w e wr := by
  refine ⟨.slice none 0 0, ?_, ?_, hb⟩
  · rw [h]; exact he
  · rw [h]; exact World.ownsRow_nil _ _ _ _

theorem iPO_long (s : ByteArray) (w : World) (h : 600 < s.size) : Calls Tryd.prog 5 #[.string s] w (Answers s.data.toList w) := by
  have e : Hid (PO s.data.toList = none) := PO_long _ (by simpa using h)
  go_enter Tryd.func5, Tryd.ntmps5
  go_wp2
  go_ret2
  exact answers_none _ _ _ _ e.out rfl (Below.refl _ _)

theorem field_size (l : List UInt8) (x : List UInt8) : ∀ (c : List UInt8), x ∈ Lib.fieldsGo c l → x.length ≤ c.length + l.length := by
  induction l with
  | nil =>
    intro c hx
    simp only [Lib.fieldsGo] at hx
    by_cases hc : c.isEmpty
    · simp [hc] at hx
    · simp [hc] at hx; subst hx; simp
  | cons b l ih =>
    intro c hx
    simp only [Lib.fieldsGo] at hx
    by_cases hs : Lib.isSp b
    · rw [if_pos hs] at hx
      by_cases hc : c.isEmpty
      · rw [if_pos hc] at hx
        have := ih [] hx
        simp at this ⊢
        omega
      · rw [if_neg hc] at hx
        rcases List.mem_cons.1 hx with rfl | hx
        · simp
        · have := ih [] hx
          simp at this ⊢
          omega
    · rw [if_neg hs] at hx
      have := ih (c ++ [b]) hx
      simp at this ⊢
      omega

theorem fields_size (l : List UInt8) (fs : List (List UInt8)) (h : fs = Lib.fields l) (k : Nat) (hk : k < fs.length) : (fs[k]).length ≤ l.length := by
  subst h
  have := field_size l _ [] (List.getElem_mem hk)
  simpa using this

theorem ok_lt {b : UInt8} (h : okB b = true) : b.toNat < 128 := by
  unfold okB at h
  simp only [Bool.and_eq_true, decide_eq_true_eq] at h
  omega

set_option maxRecDepth 100000 in
set_option maxHeartbeats 2000000 in
theorem iPO_short (s : ByteArray) (w : World) (hs : s.size ≤ 600) (ht : Lib.TabIs Tryd.prog w "strings.asciiSpace" .u8 Lib.asciiSpaceTab) : Calls Tryd.prog 5 #[.string s] w (Answers s.data.toList w) := by
  have hlen : s.data.toList.length = s.size := by simp
  have HT : Hid (Lib.TabIs Tryd.prog w "strings.asciiSpace" .u8 Lib.asciiSpaceTab) := ht
  clear ht
  go_enter Tryd.func5, Tryd.ntmps5
  go_wp2
  go_loop [4] (fun i => ∃ k : Nat, i = .int .i64 k ∧ k ≤ s.size ∧ Hid (∀ j (hj : j < s.data.toList.length), j < k → okB s.data.toList[j] = true)) (fun i => s.size - (intOf i).toNat)
  case atStart => exact ⟨0, rfl, by omega, fun j hj h => by omega⟩
  case round =>
    obtain ⟨k, rfl, hk, hA⟩ := hrel
    by_cases hlt : k < s.size
    · have hx : s[k].toNat < 256 := s[k].toNat_lt
      by_cases h1 : s[k].toNat < 32
      · have e : Hid (PO s.data.toList = none) := PO_bad _ k (by omega) (by show okB s[k] = false; unfold okB; simp; omega)
        clear hA
        go_wp2
        go_ret2
        exact answers_none _ _ _ _ e.out rfl (Below.refl _ _)
      · have d1 : decide ((s[k].toNat : Int) < 32) = false := by simp; omega
        by_cases h2 : 126 < s[k].toNat
        · have e : Hid (PO s.data.toList = none) := PO_bad _ k (by omega) (by show okB s[k] = false; unfold okB; simp; omega)
          clear hA
          go_wp2
          go_ret2
          exact answers_none _ _ _ _ e.out rfl (Below.refl _ _)
        · have hA' : Hid (∀ j (hj : j < s.data.toList.length), j < k + 1 → okB s.data.toList[j] = true) := by
            intro j hj hjk
            by_cases ej : j = k
            · subst ej; show okB s[j] = true; unfold okB; simp; omega
            · exact hA.out j hj (by omega)
          clear hA
          go_wp2
          go_round
          case rel => exact ⟨k + 1, by go_num, by omega, hA'⟩
          case measure => simp [intOf]; omega
    · have hall : ∀ j (hj : j < s.data.toList.length), okB s.data.toList[j] = true := fun j hj => hA.out j hj (by omega)
      have hasc : ∀ (j : Nat) b, s.data.toList[j]? = some b → b.toNat < 128 := by
        intro j b hb
        obtain ⟨hj, rfl⟩ := List.getElem?_eq_some_iff.1 hb
        exact ok_lt (hall j hj)
      have HAS : Hid (∀ (j : Nat) b, s.data.toList[j]? = some b → b.toNat < 128) := hasc
      have HAL : Hid (∀ j (hj : j < s.data.toList.length), okB s.data.toList[j] = true) := hall
      clear hasc hall hA
      obtain ⟨fs, hfs⟩ : ∃ fs, fs = Lib.fields s.data.toList := ⟨_, rfl⟩
      have HFS : Hid (fs = Lib.fields s.data.toList) := hfs
      have hF := fun (wx : World) hx => Tryd.strings_Fields s wx (by omega) HAS.out hx
      rw [← hfs] at hF
      have HF : Hid (∀ wx, Lib.TabIs Tryd.prog wx "strings.asciiSpace" .u8 Lib.asciiSpaceTab → Calls Tryd.prog 9 _ wx _) := hF
      clear hF hfs
      go_wp2_with fail
      refine (HF.out _ HT.out).mono ?_
      rintro e1 w1 ⟨rfl, rfl⟩
      by_cases hmany : 10 < fs.length
      · have e : Hid (PO s.data.toList = none) := PO_many _ (by rw [← HFS.out]; exact hmany)
        go_wp2
        go_ret2
        exact answers_none _ _ _ _ e.out rfl ((Below.refl _ _).alloc (Nat.le_refl _) _)
      · have e : Hid (PO s.data.toList = some fs) := by unfold Hid; rw [PO_some _ (by omega) HAL.out (by rw [← HFS.out]; omega), HFS.out]
        have hown0 : (w.alloc (.cells (fs.map fun l => Value.string ⟨l.toArray⟩).toArray 9)).ownsRow w.heap.size 9 1 (.slice (some ⟨w.heap.size, 0, none⟩) fs.length fs.length) fs.length (strsV fs) := by
          have := World.ownsRow_lit (base := w.heap.size) (e := 9) (size := 1) w (fs.map fun l => Value.string ⟨l.toArray⟩).toArray fs.length (Nat.le_refl _) (by unfold maxLen; omega) (by simp)
          simpa [strsV] using this
        go_wp2
        go_loopw [33] (fun i wr => ∃ k : Nat, i = .int .i64 k ∧ k ≤ fs.length ∧ wr.ownsRow w.heap.size 9 1 (.slice (some ⟨w.heap.size, 0, none⟩) fs.length fs.length) fs.length (strsV fs) ∧ Below w.heap.size w wr) (fun i _ => fs.length - (intOf i).toNat)
        case atStart => exact ⟨0, rfl, by omega, hown0, (Below.refl _ _).alloc (Nat.le_refl _) _⟩
        case round =>
          obtain ⟨k2, rfl, hk2, hown, hb⟩ := hrel
          by_cases hlt2 : k2 < fs.length
          · have hcell : wr.cell? ⟨w.heap.size, k2, none⟩ = some (.string ⟨(fs[k2]).toArray⟩) := by
              rw [hown.cellAt k2 (by omega)]; simp [strsV, hlt2]
            have hsz : (⟨(fs[k2]).toArray⟩ : ByteArray).size ≤ 281474976710656 := by
              have := fields_size s.data.toList fs HFS.out k2 hlt2
              show (fs[k2]).toArray.size ≤ _
              simp only [List.size_toArray]
              omega
            have HSZ : Hid ((⟨(fs[k2]).toArray⟩ : ByteArray).size ≤ 281474976710656) := hsz
            have hset : (strsV fs).set k2 (.string ⟨(fs[k2]).toArray⟩) = strsV fs := by
              apply List.ext_getElem?
              intro j
              rw [List.getElem?_set]
              by_cases ej : k2 = j
              · subst ej; simp [strsV, hlt2]
              · simp [ej]
            have HSET := hset
            have hbs := hb.size
            clear hsz hset
            go_wp2_with fail
            refine (clone_any _ _ HSZ.out).mono ?_
            rintro e1 w1 ⟨rfl, hb1⟩
            have hown1 := own_below hown hb1
            have hst := hown1.stored k2 (.string ⟨(fs[k2]).toArray⟩)
            have hfz := hown1.frozenAt k2
            have hc1 : w1.cell? ⟨w.heap.size, k2, none⟩ = some (.string ⟨(fs[k2]).toArray⟩) := by
              rw [hown1.cellAt k2 (by omega)]; simp [strsV, hlt2]
            rw [HSET] at hst
            have hb2 : Below w.heap.size w (w1.setCell ⟨w.heap.size, k2, none⟩ (.string ⟨(fs[k2]).toArray⟩)) := (hb.trans (hb1.mono hbs)).setCell (Nat.le_refl _) _
            have hst1 := hst.1
            clear hst hown1 hown hcell HSET
            go_wp2
            go_roundw
            case rel => first | exact ⟨k2 + 1, by go_num, by omega, hst1, hb2⟩ | ((repeat apply Exists.intro); exact ⟨⟨k2 + 1, by go_num, by omega, hst1, hb2⟩, rfl⟩)
            case measure => simp [intOf]; omega
          · go_wp2
            go_ret2
            refine ⟨.slice (some ⟨w.heap.size, 0, none⟩) fs.length fs.length, ?_, ?_, hb⟩
            · rw [e.out]; rfl
            · rw [e.out]; exact hown

end Go.Proofs.YtedpihiobgdofalDoor
