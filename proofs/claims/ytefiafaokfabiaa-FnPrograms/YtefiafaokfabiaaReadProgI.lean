/- What impl's ReadProgram answers of every text: the program whose bytes it is. -/
import Derived.Test.YtefiafaokfabiaaOwnWords
namespace Go.Proofs.Ytefiafaokfabiaa
open Go.RowKit
set_option linter.unusedVariables false

theorem readP_rest {l : List UInt8} (h : l.length % 7 ≠ 0) : readP l = none := by
  unfold readP
  rw [if_neg (fun hh => h hh.1)]

theorem readP_long {l : List UInt8} (h : inB ((l.length / 7 : Nat) : Int) 1 400 = false) : readP l = none := by
  rw [inB_false] at h
  unfold readP
  rw [if_neg]
  rintro ⟨_, h1, h2, _⟩
  omega

theorem readP_bad {l : List UInt8} {k : Nat} (hk : k < l.length / 7) (h : okW (wordAt l k) = false) : readP l = none := by
  unfold readP
  rw [if_neg]
  rintro ⟨_, _, _, h3⟩
  rw [List.all_eq_true] at h3
  have := h3 (wordAt l k) (by unfold headW; exact List.mem_map.2 ⟨k, List.mem_range.2 hk, rfl⟩)
  rw [h] at this
  cases this

theorem readP_good {l : List UInt8} {n : Nat} (hn : n = l.length / 7) (h0 : l.length % 7 = 0) (h : inB ((n : Nat) : Int) 1 400 = true) (ha : ∀ k, k < n → okW (wordAt l k) = true) : readP l = some (headW l n) := by
  rw [inB_true] at h
  unfold readP
  rw [← hn, if_pos]
  refine ⟨h0, by omega, by omega, List.all_eq_true.2 fun x hx => ?_⟩
  unfold headW at hx
  obtain ⟨k, hk, rfl⟩ := List.mem_map.1 hx
  exact ha k (List.mem_range.1 hk)

theorem readW_at {l : List UInt8} {k : Nat} (h : 7 * k + 7 ≤ l.length) : readW ((l.drop (7 * k)).take 7) = if okW (wordAt l k) = true then some (wordAt l k) else none := by
  unfold readW
  rw [show wordL ((l.drop (7 * k)).take 7) = wordAt l k from rfl]
  by_cases ho : okW (wordAt l k) = true
  · rw [if_pos ho, if_pos ⟨by simp; omega, ho⟩]
  · rw [if_neg ho, if_neg (fun hh => ho hh.2)]

set_option maxRecDepth 100000 in
set_option maxHeartbeats 2000000 in
theorem iReadProg_any (s : ByteArray) (w : World) (hs : s.size ≤ 1048576) :
    Calls Try.prog 12 #[.string s] w fun e w' => ∃ v, e = .returned (.tuple #[v, .bool (readP s.data.toList).isSome]) ∧ Own4 w' w.heap.size v ((readP s.data.toList).getD []) ∧ Ext w w' := by
  obtain ⟨i0, hi, hz0, hz1, hz2⟩ := info_parts Try.infoN
  obtain ⟨r, hr⟩ : ∃ r, r = readP s.data.toList := ⟨_, rfl⟩
  rw [← hr]
  have HR : Hid (r = readP s.data.toList) := hr
  clear hr
  have hlen : s.data.toList.length = s.size := by simp
  have HL : Hid (s.data.toList.length = s.size) := hlen
  clear hlen
  obtain ⟨n, hn⟩ : ∃ n, n = s.size / 7 := ⟨_, rfl⟩
  have en : (s.size : Int) / 7 = (n : Int) := by omega
  by_cases h7 : s.size % 7 = 0
  · have e7 : (s.size : Int) % 7 = 0 := by omega
    have hsz : s.size = 7 * n := by omega
    cases hf : inB n 1 400
    · have HT : Hid (r = none) := by rw [HR.out]; exact readP_long (by rw [HL.out, ← hn]; exact hf)
      clear hn hsz h7
      go_enter Try.func12, Try.ntmps12
      go_wp2_with (go_at_call 35; refine (fits_any _ _).mono ?_; rintro e w' ⟨rfl, rfl⟩)
      refine bodyPost_ret (v := .tuple #[.slice none 0 0, .bool false]) (by simp [results, Try.results12, go_sem]) rfl ⟨_, by rw [HT.out]; rfl, by rw [HT.out]; exact Own4.nil _ _, Ext.refl _⟩
    have hn4 : n ≤ 400 := by rw [inB_true] at hf; omega
    have HN : Hid (n = s.size / 7 ∧ s.size % 7 = 0 ∧ inB n 1 400 = true) := ⟨hn, h7, hf⟩
    clear hn h7
    go_enter Try.func12, Try.ntmps12
    go_wp2_with (first | (go_at_call 35; refine (fits_any _ _).mono ?_; rintro e w' ⟨rfl, rfl⟩) | (at_make; refine wpList_make_own _ rfl _ _ 24 rfl w.heap.size 32 i0 (.agg #[.int .i64 0, .int .i64 0, .int .i64 0, .int .i64 0]) 4 Try.underlying24 hi hz0 hz1 _ _ _ n rfl rfl (by omega) (by rw [hz2]; omega) (by unfold maxLen; omega) (Nat.le_refl _) ?_; intro w0 hown0 hgrow0))
    have hb0 : Ext w w0 := (Below.refl _ _).grown hgrow0 (Nat.le_refl _) (fun k hk => by cases hk)
    clear hf en e7
    go_loopw [5, 6] (fun v i wr => ∃ k : Nat, i = .int .i64 ((7 * k : Nat) : Int) ∧ k ≤ n ∧ Own4 wr w.heap.size v (headW s.data.toList k) ∧ Hid (Ext w wr ∧ ∀ j, j < k → okW (wordAt s.data.toList j) = true)) (fun _ i _ => s.size - (intOf i).toNat)
    case atStart => exact ⟨0, rfl, by omega, hown0, hb0, fun j hj => by omega⟩
    case round =>
      obtain ⟨k, rfl, hk, hown, HK⟩ := hrel
      clear hown0 hgrow0 hb0
      have hlenk : (headW s.data.toList k).length = k := headW_length _ _
      obtain ⟨ao, cc, hv⟩ := own_slice hown
      rw [hlenk] at hv
      subst hv
      by_cases hlt : k < n
      · obtain ⟨m, hm⟩ : ∃ m, m = 7 * k := ⟨_, rfl⟩
        rw [← hm]
        have bk : (m : Int) < (s.size : Int) := by omega
        have bm : m + 7 ≤ s.size := by omega
        have HM : Hid (m = 7 * k ∧ s.size = 7 * n) := ⟨hm, hsz⟩
        clear hm hsz
        have HX : Hid (∀ w, Calls Try.prog 17 #[.string (s.extract m (m + 7))] w fun e w' => e = .returned (.tuple #[((if okW (wordAt s.data.toList k) = true then some (wordAt s.data.toList k) else none : Option Wd).getD zeroW).val, .bool (if okW (wordAt s.data.toList k) = true then some (wordAt s.data.toList k) else none : Option Wd).isSome]) ∧ Ext w w') := fun w => by
          have h := iReadIns_any (s.extract m (m + 7)) w (by rw [ByteArray.size_extract]; omega)
          rw [cut_list, HM.out.1, show 7 * k + 7 - 7 * k = 7 by omega, readW_at (by have := HM.out; have := HL.out; omega)] at h
          rw [HM.out.1]
          exact h
        have hkl : (headW s.data.toList k).length = k := hlenk
        clear hlenk
        cases hok : okW (wordAt s.data.toList k)
        · have HI : Hid (∀ w, Calls Try.prog 17 #[.string (s.extract m (m + 7))] w fun e w' => e = .returned (.tuple #[.agg #[.int .i64 0, .int .i64 0, .int .i64 0, .int .i64 0], .bool false]) ∧ Ext w w') := fun w => by
            have h := HX.out w
            rw [if_neg (by rw [hok]; simp)] at h
            exact h
          have HT : Hid (r = none) := by rw [HR.out]; exact readP_bad (k := k) (by have := HL.out; have := HN.out; omega) hok
          clear hok HX hown hkl
          go_wp2_with fail
          refine (HI.out _).mono ?_
          rintro e w2 ⟨rfl, e2⟩
          have E2 : Hid (Ext w w2) := HK.out.1.trans e2
          clear e2 HI
          go_wp2
          refine bodyPost_ret (v := .tuple #[.slice none 0 0, .bool false]) (by simp [results, Try.results12, go_sem]) rfl ⟨_, by rw [HT.out]; rfl, by rw [HT.out]; exact Own4.nil _ _, E2.out.alloc _⟩
        · obtain ⟨⟨o, kk, y, nn⟩, hp⟩ : ∃ p, p = wordAt s.data.toList k := ⟨_, rfl⟩
          have HI : Hid (∀ w, Calls Try.prog 17 #[.string (s.extract m (m + 7))] w fun e w' => e = .returned (.tuple #[.agg #[.int .i64 o, .int .i64 kk, .int .i64 y, .int .i64 nn], .bool true]) ∧ Ext w w') := fun w => by
            have h := HX.out w
            rw [if_pos hok, ← hp] at h
            exact h
          have HP : Hid (headW s.data.toList (k + 1) = headW s.data.toList k ++ [(o, kk, y, nn)] ∧ okW (wordAt s.data.toList k) = true) := ⟨by rw [headW_succ, hp], hok⟩
          have HO : Hid (wr.ownsRow w.heap.size 32 4 (.slice ao k cc) k (flatI (headW s.data.toList k))) := by
            unfold Own4 at hown
            rw [hkl] at hown
            exact hown
          clear hok HX hown hkl hp
          go_wp2_with fail
          refine (HI.out _).mono ?_
          rintro e w2 ⟨rfl, e2⟩
          have hown2 := own_below HO.out e2
          have E2 : Hid (Ext w w2) := HK.out.1.trans e2
          have hz3 := E2.out.size
          clear e2 HI HO
          go_wp2_with (at_builtin; refine wpList_append_own _ rfl _ _ 24 rfl w.heap.size 32 i0 (.agg #[.int .i64 0, .int .i64 0, .int .i64 0, .int .i64 0]) 4 32 Try.underlying24 hi hz0 hz1 hz2 rfl (by decide) _ k _ rfl ((hown2.alloc _).alloc _) ⟨w2.heap.size + 1, 0, none⟩ 1 1 (ints4 o kk y nn) rfl rfl ?c1 ?c2 ?c3 ?c4 ?c5 ?_)
          case c1 =>
            intro j u hu
            have := (CellsAt.new' (w2.alloc (.cells #[.int .i64 o, .int .i64 kk, .int .i64 y, .int .i64 nn] 32)) (ints4 o kk y nn) 32 (w2.heap.size + 1) (by simp)).2 j u hu
            rw [Addr.add_lit, Nat.zero_add]
            exact this
          case c2 => intro u hu; simp [ints4] at hu; rcases hu with rfl | rfl | rfl | rfl <;> rfl
          case c3 => unfold maxLen; omega
          case c4 => omega
          case c5 => simp; omega
          · intro v' w3 hown3 hgrow _
            have e4 : flatI (headW s.data.toList k) ++ ints4 o kk y nn = flatI (headW s.data.toList (k + 1)) := by rw [HP.out.1]; exact flatI_push _ (o, kk, y, nn)
            rw [e4] at hown3
            have E3 : Hid (Ext w w3) := Below.grown ((E2.out.alloc _).alloc _) hgrow (by simp; omega) (fun x hx => (hown2.lt x hx).1)
            clear hgrow hown2 e4
            go_wp2
            go_roundw
            case rel =>
              refine ⟨k + 1, by have := HM.out.1; go_num, by omega, by unfold Own4; rw [headW_length]; exact hown3, E3.out, fun j hj => ?_⟩
              by_cases hjk : j = k
              · rw [hjk]; exact HP.out.2
              · exact HK.out.2 j (by omega)
            case measure => simp [intOf]; omega
      · have hkn : k = n := by omega
        subst hkn
        obtain ⟨m, hm⟩ : ∃ m, m = 7 * k := ⟨_, rfl⟩
        have bk : ¬ ((m : Int) < (s.size : Int)) := by omega
        have HT : Hid (r = some (headW s.data.toList k)) := by rw [HR.out]; exact readP_good (by have := HN.out; have := HL.out; omega) (by have := HN.out; have := HL.out; omega) HN.out.2.2 HK.out.2
        have HO : Hid (Own4 wr w.heap.size (.slice ao k cc) (headW s.data.toList k)) := hown
        rw [← hm]
        clear hm hlt hlenk hown hsz
        go_wp2
        refine bodyPost_ret (v := .tuple #[.slice ao k cc, .bool true]) (by simp [results, Try.results12, go_sem]) rfl ⟨_, by rw [HT.out]; rfl, by rw [HT.out]; exact HO.out, HK.out.1⟩
  · have e7 : ((s.size : Int) % 7 != 0) = true := by simp; omega
    have HT : Hid (r = none) := by rw [HR.out]; exact readP_rest (by rw [HL.out]; exact h7)
    clear hn h7
    go_enter Try.func12, Try.ntmps12
    go_wp2
    refine bodyPost_ret (v := .tuple #[.slice none 0 0, .bool false]) (by simp [results, Try.results12, go_sem]) rfl ⟨_, by rw [HT.out]; rfl, by rw [HT.out]; exact Own4.nil _ _, Ext.refl _⟩

end Go.Proofs.Ytefiafaokfabiaa
