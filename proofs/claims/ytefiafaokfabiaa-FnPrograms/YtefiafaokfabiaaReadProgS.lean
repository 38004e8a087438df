/- What spec's ReadProgram answers of every text: the program whose bytes it is. -/
import Derived.Test.YtefiafaokfabiaaReadProgI
import Derived.Laws.Strings
namespace Go.Proofs.Ytefiafaokfabiaa
open Go.RowKit
set_option linter.unusedVariables false

theorem texts_ne {A B : ByteArray} (h : A.size ≠ B.size) : (A.toList == B.toList) = false := by
  rw [beq_eq_false_iff_ne]
  intro e
  apply h
  rw [ByteArray.toList_eq, ByteArray.toList_eq] at e
  have := congrArg List.length e
  simpa using this

set_option maxRecDepth 100000 in
set_option maxHeartbeats 2000000 in
theorem sReadProg_any (s : ByteArray) (w : World) (hs : s.size ≤ 1048576) :
    Calls Try.prog 14 #[.string s] w fun e w' => ∃ v, e = .returned (.tuple #[v, .bool (readP s.data.toList).isSome]) ∧ Own4 w' w.heap.size v ((readP s.data.toList).getD []) ∧ Ext w w' := by
  obtain ⟨i0, hi, hz0, hz1, hz2⟩ := info_parts Try.infoN
  obtain ⟨r, hr⟩ : ∃ r, r = readP s.data.toList := ⟨_, rfl⟩
  rw [← hr]
  have HR : Hid (r = readP s.data.toList) := hr
  clear hr
  have hlen : s.data.toList.length = s.size := by simp
  have HL : Hid (s.data.toList.length = s.size) := hlen
  clear hlen
  go_enter Try.func14, Try.ntmps14
  go_wp2
  go_loopw [4, 5] (fun v i wr => ∃ k : Nat, i = .int .i64 ((7 * k : Nat) : Int) ∧ k ≤ 401 ∧ 7 * k ≤ s.size ∧ Own4 wr w.heap.size v (headW s.data.toList k) ∧ Hid (Ext w wr ∧ ∀ j, j < k → okW (wordAt s.data.toList j) = true)) (fun _ i _ => s.size - (intOf i).toNat)
  case atStart => exact ⟨0, rfl, by omega, by omega, Own4.lit w _ (Nat.le_refl _), Ext.one _ _, fun j hj => by omega⟩
  case round =>
    obtain ⟨k, rfl, hk, hks, hown, HK⟩ := hrel
    have hlenk : (headW s.data.toList k).length = k := headW_length _ _
    obtain ⟨ao, cc, hv⟩ := own_slice hown
    rw [hlenk] at hv
    subst hv
    obtain ⟨m, hm⟩ : ∃ m, m = 7 * k := ⟨_, rfl⟩
    rw [← hm]
    have HM : Hid (m = 7 * k ∧ 7 * k ≤ s.size) := ⟨hm, hks⟩
    by_cases hgo : m + 7 ≤ s.size ∧ k ≤ 400
    · obtain ⟨bm, hk4⟩ := hgo
      have bk : (m : Int) + 7 ≤ (s.size : Int) := by omega
      have hk4' : (k : Int) ≤ 400 := by omega
      clear hm hks
      have HX : Hid (∀ w, Calls Try.prog 19 #[.string (s.extract m (m + 7))] w fun e w' => e = .returned (.tuple #[((if okW (wordAt s.data.toList k) = true then some (wordAt s.data.toList k) else none : Option Wd).getD zeroW).val, .bool (if okW (wordAt s.data.toList k) = true then some (wordAt s.data.toList k) else none : Option Wd).isSome]) ∧ Ext w w') := fun w => by
        have h := sReadIns_any (s.extract m (m + 7)) w (by rw [ByteArray.size_extract]; omega)
        rw [cut_list, HM.out.1, show 7 * k + 7 - 7 * k = 7 by omega, readW_at (by have := HM.out; have := HL.out; omega)] at h
        rw [HM.out.1]
        exact h
      cases hok : okW (wordAt s.data.toList k)
      · have HI : Hid (∀ w, Calls Try.prog 19 #[.string (s.extract m (m + 7))] w fun e w' => e = .returned (.tuple #[.agg #[.int .i64 0, .int .i64 0, .int .i64 0, .int .i64 0], .bool false]) ∧ Ext w w') := fun w => by
          have h := HX.out w
          rw [if_neg (by rw [hok]; simp)] at h
          exact h
        have HT : Hid (r = none) := by rw [HR.out]; exact readP_bad (k := k) (by have := HL.out; have := HM.out; omega) hok
        clear hok HX hown hlenk
        go_wp2_with fail
        refine (HI.out _).mono ?_
        rintro e w2 ⟨rfl, e2⟩
        have E2 : Hid (Ext w w2) := HK.out.1.trans e2
        have hz3 := E2.out.size
        clear e2 HI
        go_wp2
        refine bodyPost_ret (v := .tuple #[.slice (some ⟨w2.heap.size + 1, 0, none⟩) 0 0, .bool false]) (by simp [results, Try.results14, go_sem]) rfl ⟨_, by rw [HT.out]; rfl, ?_, (E2.out.alloc _).alloc _⟩
        rw [HT.out]
        have := Own4.lit (w2.alloc (.cells #[.int .i64 0, .int .i64 0, .int .i64 0, .int .i64 0] 32)) w.heap.size (by simp; omega)
        simpa using this
      · obtain ⟨⟨o, kk, y, nn⟩, hp⟩ : ∃ p, p = wordAt s.data.toList k := ⟨_, rfl⟩
        have HI : Hid (∀ w, Calls Try.prog 19 #[.string (s.extract m (m + 7))] w fun e w' => e = .returned (.tuple #[.agg #[.int .i64 o, .int .i64 kk, .int .i64 y, .int .i64 nn], .bool true]) ∧ Ext w w') := fun w => by
          have h := HX.out w
          rw [if_pos hok, ← hp] at h
          exact h
        have HP : Hid (headW s.data.toList (k + 1) = headW s.data.toList k ++ [(o, kk, y, nn)] ∧ okW (wordAt s.data.toList k) = true) := ⟨by rw [headW_succ, hp], hok⟩
        have HO : Hid (wr.ownsRow w.heap.size 32 4 (.slice ao k cc) k (flatI (headW s.data.toList k))) := by
          unfold Own4 at hown
          rw [hlenk] at hown
          exact hown
        clear hok HX hown hlenk hp
        go_wp2_with fail
        refine (HI.out _).mono ?_
        rintro e w2 ⟨rfl, e2⟩
        have hown2 := own_below HO.out e2
        have E2 : Hid (Ext w w2) := HK.out.1.trans e2
        have hz3 := E2.out.size
        clear e2 HI HO
        go_wp2_with (at_builtin; refine wpList_append_own _ rfl _ _ 24 rfl w.heap.size 32 i0 (.agg #[.int .i64 0, .int .i64 0, .int .i64 0, .int .i64 0]) 4 32 Try.underlying24 hi hz0 hz1 hz2 rfl (by decide) _ k _ rfl ((hown2.alloc _).alloc _) ⟨w2.heap.size + 1, 0, none⟩ 1 1 (ints4 o kk y nn) rfl rfl ?c1 ?c2 ?c3 ?c4 ?c5 ?_)
        case c1 =>
          intro j u hu
          have := (CellsAt.new' (w2.alloc (.cells #[.int .i64 o, .int .i64 kk, .int .i64 y, .int .i64 nn] 32)) (ints4 o kk y nn) 32 (w2.heap.size + 1) (by simp)).2 j u hu
          rw [Addr.add_lit, Nat.zero_add]
          exact this
        case c2 => intro u hu; simp [ints4] at hu; rcases hu with rfl | rfl | rfl | rfl <;> rfl
        case c3 => unfold maxLen; omega
        case c4 => omega
        case c5 => simp; omega
        · intro v' w3 hown3 hgrow _
          have e4 : flatI (headW s.data.toList k) ++ ints4 o kk y nn = flatI (headW s.data.toList (k + 1)) := by rw [HP.out.1]; exact flatI_push _ (o, kk, y, nn)
          rw [e4] at hown3
          have E3 : Hid (Ext w w3) := Below.grown ((E2.out.alloc _).alloc _) hgrow (by simp; omega) (fun x hx => (hown2.lt x hx).1)
          clear hgrow hown2 e4
          go_wp2
          go_roundw
          case rel =>
            refine ⟨k + 1, by have := HM.out.1; go_num, by omega, by have := HM.out.1; omega, by unfold Own4; rw [headW_length]; exact hown3, E3.out, fun j hj => ?_⟩
            by_cases hjk : j = k
            · rw [hjk]; exact HP.out.2
            · exact HK.out.2 j (by omega)
          case measure => simp [intOf]; omega
    · obtain ⟨a', cap', hv, hcap, hwords, _⟩ := hown.words
      obtain ⟨rfl, rfl⟩ : ao = a' ∧ cc = cap' := by injection hv with h1 h2 h3; exact ⟨h1, h3⟩
      have HO : Hid (Own4 wr w.heap.size (.slice ao k cc) (headW s.data.toList k)) := hown
      have E1 : Hid (Ext w wr) := HK.out.1
      have guards : ¬ (m + 7 ≤ s.size) ∨ (m + 7 ≤ s.size ∧ ¬ k ≤ 400) := by omega
      have HS := sProgText_any ao cc (headW s.data.toList k) wr (by rw [hlenk]; omega) hwords
      rw [hlenk] at HS
      have hln := HL.out
      have hmm := HM.out
      have bmm : (m : Int) ≤ 1048576 := by omega
      cases hf : inB k 1 400
      · have ht : textP (headW s.data.toList k) = none := textP_long (by rw [hlenk]; exact hf)
        have HI : Hid (Calls Try.prog 21 #[.slice ao k cc] wr fun e w' => e = .returned (.tuple #[.string ⟨#[]⟩, .bool false]) ∧ Ext wr w') := by rw [ht] at HS; exact HS
        have HT : Hid (r = none) := by
          rw [HR.out]
          refine readP_long ?_
          rw [inB_false] at hf ⊢
          omega
        clear HS ht hv hown hwords hf hlenk hm hks hgo hln hmm
        rcases guards with g1 | ⟨g1, g2⟩
        · have g1' : ¬ ((m : Int) + 7 ≤ (s.size : Int)) := by omega
          go_wp2_with fail
          refine (HI.out).mono ?_
          rintro e w2 ⟨rfl, e2⟩
          have E2 : Hid (Ext w w2) := E1.out.trans e2
          have hz3 := E2.out.size
          clear e2 HI
          go_wp2
          refine bodyPost_ret (v := .tuple #[.slice (some ⟨w2.heap.size, 0, none⟩) 0 0, .bool false]) (by simp [results, Try.results14, go_sem]) rfl ⟨_, by rw [HT.out]; rfl, by rw [HT.out]; exact Own4.lit w2 w.heap.size hz3, E2.out.alloc _⟩
        · have g1' : (m : Int) + 7 ≤ (s.size : Int) := by omega
          have g2' : ¬ ((k : Int) ≤ 400) := by omega
          go_wp2_with fail
          refine (HI.out).mono ?_
          rintro e w2 ⟨rfl, e2⟩
          have E2 : Hid (Ext w w2) := E1.out.trans e2
          have hz3 := E2.out.size
          clear e2 HI
          go_wp2
          refine bodyPost_ret (v := .tuple #[.slice (some ⟨w2.heap.size, 0, none⟩) 0 0, .bool false]) (by simp [results, Try.results14, go_sem]) rfl ⟨_, by rw [HT.out]; rfl, by rw [HT.out]; exact Own4.lit w2 w.heap.size hz3, E2.out.alloc _⟩
      · have hf' := hf
        rw [inB_true] at hf'
        have ht : textP (headW s.data.toList k) = some (s.data.toList.take (7 * k)) := by
          rw [textP_good (by rw [hlenk]; exact hf) (fun j hj => ?_), bytesP_first _ _ (by omega)]
          rw [hlenk] at hj
          have e : (headW s.data.toList k).getD j zeroW = wordAt s.data.toList j := by simp [headW, List.getD_eq_getElem?_getD, hj]
          rw [e]
          exact HK.out.2 j hj
        have g1' : ¬ ((m : Int) + 7 ≤ (s.size : Int)) := by omega
        rw [ht] at HS
        by_cases h7 : s.size % 7 = 0
        · have HT : Hid (r = some (headW s.data.toList k)) := by rw [HR.out]; exact readP_good (by omega) (by omega) hf HK.out.2
          have HI : Hid (Calls Try.prog 21 #[.slice ao k cc] wr fun e w' => e = .returned (.tuple #[.string s, .bool true]) ∧ Ext wr w') := by
            have e : (⟨(s.data.toList.take (7 * k)).toArray⟩ : ByteArray) = s := by
              rw [List.take_of_length_le (by omega)]
            have HS' : Calls Try.prog 21 #[.slice ao k cc] wr fun e w' => e = .returned (.tuple #[.string ⟨(s.data.toList.take (7 * k)).toArray⟩, .bool true]) ∧ Ext wr w' := HS
            rw [e] at HS'
            exact HS'
          clear HS ht hv hown hwords hf hlenk hm hks hgo guards hln hmm hf' h7
          go_wp2_with fail
          refine (HI.out).mono ?_
          rintro e w2 ⟨rfl, e2⟩
          have O2 : Hid (Own4 w2 w.heap.size (.slice ao k cc) (headW s.data.toList k)) := HO.out.ext e2
          have E2 : Hid (Ext w w2) := E1.out.trans e2
          clear e2 HI
          go_wp2
          refine bodyPost_ret (v := .tuple #[.slice ao k cc, .bool true]) (by simp [results, Try.results14, go_sem]) rfl ⟨_, by rw [HT.out]; rfl, by rw [HT.out]; exact O2.out, E2.out⟩
        · have HT : Hid (r = none) := by rw [HR.out]; exact readP_rest (by omega)
          obtain ⟨T, hT⟩ : ∃ T : ByteArray, T = ⟨(s.data.toList.take (7 * k)).toArray⟩ := ⟨_, rfl⟩
          have HI : Hid (Calls Try.prog 21 #[.slice ao k cc] wr fun e w' => e = .returned (.tuple #[.string T, .bool true]) ∧ Ext wr w') := by rw [hT]; exact HS
          have hne : (T.toList == s.toList) = false := texts_ne (by
            rw [hT]
            show (s.data.toList.take (7 * k)).toArray.size ≠ _
            rw [List.size_toArray, List.length_take]
            omega)
          clear HS ht hv hown hwords hf hlenk hm hks hgo guards hln hmm hf' h7 hT
          go_wp2_with fail
          refine (HI.out).mono ?_
          rintro e w2 ⟨rfl, e2⟩
          have E2 : Hid (Ext w w2) := E1.out.trans e2
          have hz3 := E2.out.size
          clear e2 HI
          go_wp2
          refine bodyPost_ret (v := .tuple #[.slice (some ⟨w2.heap.size, 0, none⟩) 0 0, .bool false]) (by simp [results, Try.results14, go_sem]) rfl ⟨_, by rw [HT.out]; rfl, by rw [HT.out]; exact Own4.lit w2 w.heap.size hz3, E2.out.alloc _⟩

end Go.Proofs.Ytefiafaokfabiaa
