/- What impl's and spec's Reached answer, of every program: the same list, in memory of its own. -/
import Derived.Test.YtaigoggoibdgbaaBoolRow
import Derived.Test.YtaigoggoibdgbaaReachMath
import Derived.Test.YtaigoggoibdgbaaCheckIS
namespace Go.Proofs.Ytaigoggoibdgbaa
open Go.RowKit
set_option linter.unusedVariables false

theorem made_head {w : World} {g n : Nat} (h : Bools w g (List.replicate n false)) (hn : 1 ≤ n) : w.cell? ⟨g, 0, none⟩ = some (.bool false) ∧ w.frozen? ⟨g, 0, none⟩ = false := by
  have := h.2 0 (by rw [List.length_replicate]; omega)
  have e : (List.replicate n false).getD 0 false = false := by simp [List.getD_eq_getElem?_getD, List.getElem?_replicate]; split <;> rfl
  rw [e] at this
  exact this

theorem ways_plain {o k y n : Int} (h : okW (o, k, y, n) = true) (h7 : o ≠ 7) : yesW (o, k, y, n) = y ∧ noW (o, k, y, n) = n := by
  rw [okW_P] at h
  unfold insP at h
  simp only at h
  show (if 3 ≤ o ∧ o ≤ 6 then y else if o = 7 then k else 0) = y ∧ (if 3 ≤ o ∧ o ≤ 6 then n else if o = 7 then k else 0) = n
  by_cases h36 : 3 ≤ o ∧ o ≤ 6
  · exact ⟨if_pos h36, if_pos h36⟩
  · rw [if_neg h36, if_neg h36, if_neg h7]
    omega

set_option maxRecDepth 100000 in
set_option maxHeartbeats 4000000 in
theorem iReached_any (a : Option Addr) (cap : Nat) (ws : List Wd) (w : World) (hl : ws.length ≤ 1048576) (hca : ws.length ≤ cap) (h : Words w a ws) :
    Calls Try.prog 14 #[.slice a ws.length cap] w fun e w' => ∃ v, e = .returned v ∧ RepB w.heap.size (reachP ws) v w' ∧ Ext w w' := by
  obtain ⟨i0, hi, hz0, hz1, hz2⟩ := info_parts Try.infoT
  obtain ⟨n, hn⟩ : ∃ n, n = ws.length := ⟨_, rfl⟩
  have HA : Hid (Words w a ws ∧ n = ws.length) := ⟨h, hn⟩
  have HCK : Hid (Calls Try.prog 11 #[.slice a n cap] w fun e w' => e = .returned (.bool (checkP ws)) ∧ Ext w w') := by rw [hn]; exact iCheck_any a cap ws w hl hca h
  rw [← hn]
  have hl' : n ≤ 1048576 := by omega
  clear h hn hl
  cases hck : checkP ws
  · have HZ : Hid (reachP ws = []) := reachP_no hck
    rw [hck] at HCK
    clear hck
    go_enter Try.func14, Try.ntmps14
    go_wp2_with fail
    refine HCK.out.mono ?_
    rintro e w1 ⟨rfl, e1⟩
    have E1 : Hid (Ext w w1) := e1
    clear e1
    go_wp2
    go_ret
    refine ⟨_, rfl, ?_, E1.out⟩
    rw [HZ.out]
    exact RepB.nil _ _ _ _
  have HZ : Hid (reachP ws = reachAt ws n) := by unfold Hid; rw [reachP_yes hck, HA.out.2]
  have HCH : Hid (checkP ws = true) := hck
  have hn4 : 1 ≤ n ∧ n ≤ 400 := by have h := hck; rw [checkP_true] at h; have := h.1; have := HA.out.2; omega
  obtain ⟨hn1, hn4⟩ := hn4
  rw [hck] at HCK
  clear hck
  go_enter Try.func14, Try.ntmps14
  go_wp2_with fail
  refine HCK.out.mono ?_
  rintro e w1 ⟨rfl, e1⟩
  have E1 : Hid (Ext w w1) := e1
  clear e1 HCK
  go_wp2_with (at_make; refine wpList_make_full _ rfl _ _ 35 rfl w1.heap.size 4 i0 (.bool false) 1 Try.underlying35 hi hz0 hz1 _ _ _ _ n rfl rfl (by omega) (by omega) (by rw [hz2]; omega) (by unfold maxLen; omega) (Nat.le_refl _) ?_; intro w0 hown0 hgrow0; have hB0 := made_bools hown0; obtain ⟨c0, f0⟩ := made_head hB0 hn1)
  have E2 : Hid (Ext w w0) := Below.grown E1.out hgrow0 E1.out.size (fun k hk => by cases hk)
  have hwg : w.heap.size ≤ w1.heap.size := E1.out.size
  obtain ⟨g, hg⟩ : ∃ g, g = w1.heap.size := ⟨_, rfl⟩
  rw [← hg] at hB0 hwg ⊢
  have HB : Hid (Bools (w0.setCell ⟨g, 0, none⟩ (.bool true)) g (reachAt ws 0)) := by
    have := Bools.set (i := 0) hB0 (by rw [List.length_replicate]; omega) true
    rw [HA.out.2] at this
    exact this
  have E3 : Hid (Ext w (w0.setCell ⟨g, 0, none⟩ (.bool true))) := Below.setCell E2.out (show w.heap.size ≤ g from hwg) _
  clear hown0 hgrow0 hB0 c0 f0 hg E1 E2
  go_loopw [18] (fun i wr => ∃ k : Nat, i = .int .i64 k ∧ k ≤ n ∧ Hid (Ext w wr ∧ Bools wr g (reachAt ws k))) (fun i _ => n - (intOf i).toNat)
  case atStart => exact ⟨0, rfl, by omega, E3.out, HB.out⟩
  case round =>
    obtain ⟨k, rfl, hk, HR⟩ := hrel
    clear HB E3
    by_cases hlt : k < n
    · have bk : (k : Int) < (n : Int) := by omega
      have hkw : k < ws.length := by have := HA.out.2; omega
      obtain ⟨⟨o, kk, y, nn⟩, hp⟩ : ∃ p, p = ws.getD k zeroW := ⟨_, rfl⟩
      have HP : Hid ((o, kk, y, nn) = ws.getD k zeroW) := hp
      obtain ⟨b, off, rfl, c0, c1, c2, c3⟩ := (HA.out.1.ext HR.out.1).quad (k := k) hkw hp
      simp only at c0 c1 c2 c3
      have hgl := HR.out.2.1
      have HX : Hid (Blk (wr.alloc (.cells #[.int .i64 o, .int .i64 kk, .int .i64 y, .int .i64 nn] 34)) wr.heap.size [.int .i64 o, .int .i64 kk, .int .i64 y, .int .i64 nn] 34) := Blk.new wr [.int .i64 o, .int .i64 kk, .int .i64 y, .int .i64 nn] 34
      obtain ⟨zb, hzb⟩ : ∃ zb, zb = (reachAt ws k).getD k false := ⟨_, rfl⟩
      have d0 := ((HR.out.2.ext (Ext.one wr (.cells #[.int .i64 o, .int .i64 kk, .int .i64 y, .int .i64 nn] 34))).2 k (by rw [reachAt_length]; exact hkw)).1
      rw [← hzb] at d0
      clear hp
      cases zb
      · have HT : Hid (reachAt ws (k + 1) = reachAt ws k) := markR_not hzb.symm
        have E4 : Hid (Ext w wr) := HR.out.1
        clear hzb HX hkw
        go_wp2
        go_roundw
        case rel => exact ⟨k + 1, by go_num, by omega, E4.out.alloc _, by rw [HT.out]; exact HR.out.2.ext (Ext.one _ _)⟩
        case measure => simp [intOf]; omega
      by_cases h8 : o = 8
      · have HT : Hid (reachAt ws (k + 1) = reachAt ws k) := markR_ret (by rw [← HP.out]; exact h8)
        have E4 : Hid (Ext w wr) := HR.out.1
        subst h8
        clear hzb HX hkw
        go_wp2
        go_roundw
        case rel => exact ⟨k + 1, by go_num, by omega, E4.out.alloc _, by rw [HT.out]; exact HR.out.2.ext (Ext.one _ _)⟩
        case measure => simp [intOf]; omega
      have h8' : (ws.getD k zeroW).1 ≠ 8 := by rw [← HP.out]; exact h8
      have q8 : (o == 8) = false := by simpa using h8
      obtain ⟨hok, w0, w1', w2', w3'⟩ := check_ways HCH.out hkw h8'
      have hmk := markR_go hzb.symm h8'
      rw [← HP.out] at hok w0 w1' w2' w3' hmk
      obtain ⟨j1, hj1⟩ : ∃ j1, j1 = k + 1 + (yesW (o, kk, y, nn)).toNat := ⟨_, rfl⟩
      obtain ⟨j2, hj2⟩ : ∃ j2, j2 = k + 1 + (noW (o, kk, y, nn)).toNat := ⟨_, rfl⟩
      rw [← hj1, ← hj2] at hmk
      have HT : Hid (reachAt ws (k + 1) = ((reachAt ws k).set j1 true).set j2 true) := hmk
      obtain ⟨ya, hya⟩ : ∃ ya, ya = yesW (o, kk, y, nn) := ⟨_, rfl⟩
      obtain ⟨na, hna⟩ : ∃ na, na = noW (o, kk, y, nn) := ⟨_, rfl⟩
      rw [← hya] at w0 w2' hj1
      rw [← hna] at w1' w3' hj2
      have y1 : (k : Int) + 1 + ya = (j1 : Int) := by omega
      have y2 : (k : Int) + 1 + na = (j2 : Int) := by omega
      have l1 : (j1 : Int) < (n : Int) := by have := HA.out.2; omega
      have l2 : (j2 : Int) < (n : Int) := by have := HA.out.2; omega
      have L1 : j1 < n := by omega
      have L2 : j2 < n := by omega
      have hya4 : ya ≤ 400 := by omega
      have hna4 : na ≤ 400 := by omega
      have HI : Hid (∀ w, Calls Try.prog 42 #[.agg #[.int .i64 o, .int .i64 kk, .int .i64 y, .int .i64 nn]] w fun e w' => e = .returned (.tuple #[.int .i64 ya, .int .i64 na]) ∧ Ext w w') := fun w => by
        rw [hya, hna]; exact ways_any o kk y nn w
      clear hok h8' hmk hj1 hj2 hya hna w2' w3' hzb hkw h8
      by_cases hjj : j1 = j2
      · subst hjj
        go_wp2_with fail
        refine (HI.out _).mono ?_
        rintro e w2 ⟨rfl, e2⟩
        have E4 : Hid (Ext w w2) := (HR.out.1.alloc _).trans e2
        have HB2 : Hid (Bools w2 g (reachAt ws k)) := (HR.out.2.ext (Ext.one _ _)).ext e2
        have HLN : Hid (n = (reachAt ws k).length) := by unfold Hid; rw [reachAt_length]; exact HA.out.2
        obtain ⟨d1, f1⟩ := HB2.out.2 j1 (by have := HLN.out; omega)
        clear e2 HI c0 c1 c2 c3 d0 HX
        have BX : Bools ((w2.setCell ⟨g, j1, none⟩ (.bool true)).setCell ⟨g, j1, none⟩ (.bool true)) g (((reachAt ws k).set j1 true).set j1 true) := (HB2.out.set (by have := HLN.out; omega) true).set (by rw [List.length_set]; have := HLN.out; omega) true
        have HBX : Hid (Bools ((w2.setCell ⟨g, j1, none⟩ (.bool true)).setCell ⟨g, j1, none⟩ (.bool true)) g (((reachAt ws k).set j1 true).set j1 true)) := BX
        clear BX
        go_wp2
        go_roundw
        case rel => exact ⟨k + 1, by go_num, by omega, Below.setCell (Below.setCell E4.out (show w.heap.size ≤ g from hwg) _) (show w.heap.size ≤ g from hwg) _, by rw [HT.out]; exact HBX.out⟩
        case measure => simp [intOf]; omega
      · have hjj' : j2 ≠ j1 := Ne.symm hjj
        go_wp2_with fail
        refine (HI.out _).mono ?_
        rintro e w2 ⟨rfl, e2⟩
        have E4 : Hid (Ext w w2) := (HR.out.1.alloc _).trans e2
        have HB2 : Hid (Bools w2 g (reachAt ws k)) := (HR.out.2.ext (Ext.one _ _)).ext e2
        have HLN : Hid (n = (reachAt ws k).length) := by unfold Hid; rw [reachAt_length]; exact HA.out.2
        obtain ⟨d1, f1⟩ := HB2.out.2 j1 (by have := HLN.out; omega)
        obtain ⟨d2, f2⟩ := HB2.out.2 j2 (by have := HLN.out; omega)
        clear e2 HI c0 c1 c2 c3 d0 HX
        have BX : Bools ((w2.setCell ⟨g, j1, none⟩ (.bool true)).setCell ⟨g, j2, none⟩ (.bool true)) g (((reachAt ws k).set j1 true).set j2 true) := (HB2.out.set (by have := HLN.out; omega) true).set (by rw [List.length_set]; have := HLN.out; omega) true
        have HBX : Hid (Bools ((w2.setCell ⟨g, j1, none⟩ (.bool true)).setCell ⟨g, j2, none⟩ (.bool true)) g (((reachAt ws k).set j1 true).set j2 true)) := BX
        clear BX
        go_wp2
        go_roundw
        case rel => exact ⟨k + 1, by go_num, by omega, Below.setCell (Below.setCell E4.out (show w.heap.size ≤ g from hwg) _) (show w.heap.size ≤ g from hwg) _, by rw [HT.out]; exact HBX.out⟩
        case measure => simp [intOf]; omega
    · have hkn : k = n := by omega
      have bk : ¬ ((k : Int) < (n : Int)) := by omega
      have E4 : Hid (Ext w wr ∧ Bools wr g (reachAt ws n)) := by rw [← hkn]; exact HR.out
      have HL : Hid (n = (reachAt ws n).length) := by unfold Hid; rw [reachAt_length]; exact HA.out.2
      clear hkn
      go_wp2
      go_ret
      refine ⟨_, rfl, ?_, E4.out.1⟩
      rw [HZ.out]
      exact ⟨some ⟨g, 0, none⟩, n, by rw [← HL.out]; rfl, fun _ => ⟨g, rfl, hwg, E4.out.2⟩⟩

set_option maxRecDepth 100000 in
set_option maxHeartbeats 4000000 in
theorem sReached_any (a : Option Addr) (cap : Nat) (ws : List Wd) (w : World) (hl : ws.length ≤ 1048576) (h : Words w a ws) :
    Calls Try.prog 20 #[.slice a ws.length cap] w fun e w' => ∃ v, e = .returned v ∧ RepB w.heap.size (reachP ws) v w' ∧ Ext w w' := by
  obtain ⟨i0, hi, hz0, hz1, hz2⟩ := info_parts Try.infoT
  obtain ⟨n, hn⟩ : ∃ n, n = ws.length := ⟨_, rfl⟩
  have HA : Hid (Words w a ws ∧ n = ws.length) := ⟨h, hn⟩
  have HCK : Hid (Calls Try.prog 12 #[.slice a n cap] w fun e w' => e = .returned (.bool (checkP ws)) ∧ Ext w w') := by rw [hn]; exact sCheck_any a cap ws w hl h
  rw [← hn]
  have hl' : n ≤ 1048576 := by omega
  clear h hn hl
  cases hck : checkP ws
  · have HZ : Hid (reachP ws = []) := reachP_no hck
    rw [hck] at HCK
    clear hck
    go_enter Try.func20, Try.ntmps20
    go_wp2_with fail
    refine HCK.out.mono ?_
    rintro e w1 ⟨rfl, e1⟩
    have E1 : Hid (Ext w w1) := e1
    clear e1
    go_wp2
    go_ret
    refine ⟨_, rfl, ?_, E1.out.alloc _⟩
    rw [HZ.out]
    exact RepB.nil _ _ _ _
  have HZ : Hid (reachP ws = reachAt ws n) := by unfold Hid; rw [reachP_yes hck, HA.out.2]
  have HCH : Hid (checkP ws = true) := hck
  have hn4 : 1 ≤ n ∧ n ≤ 400 := by have h := hck; rw [checkP_true] at h; have := h.1; have := HA.out.2; omega
  obtain ⟨hn1, hn4⟩ := hn4
  rw [hck] at HCK
  clear hck
  go_enter Try.func20, Try.ntmps20
  go_wp2_with fail
  refine HCK.out.mono ?_
  rintro e w1 ⟨rfl, e1⟩
  have E1 : Hid (Ext w w1) := e1
  clear e1 HCK
  go_wp2_with (at_make; refine wpList_make_full _ rfl _ _ 35 rfl w1.heap.size 4 i0 (.bool false) 1 Try.underlying35 hi hz0 hz1 _ _ _ _ n rfl rfl (by omega) (by omega) (by rw [hz2]; omega) (by unfold maxLen; omega) (Nat.le_refl _) ?_; intro w0 hown0 hgrow0; have hB0 := made_bools hown0; obtain ⟨c0, f0⟩ := made_head hB0 hn1)
  have E2 : Hid (Ext w w0) := Below.grown E1.out hgrow0 E1.out.size (fun k hk => by cases hk)
  have hwg : w.heap.size ≤ w1.heap.size := E1.out.size
  obtain ⟨g, hg⟩ : ∃ g, g = w1.heap.size := ⟨_, rfl⟩
  rw [← hg] at hB0 hwg ⊢
  have HB : Hid (Bools (w0.setCell ⟨g, 0, none⟩ (.bool true)) g (reachAt ws 0)) := by
    have := Bools.set (i := 0) hB0 (by rw [List.length_replicate]; omega) true
    rw [HA.out.2] at this
    exact this
  have E3 : Hid (Ext w (w0.setCell ⟨g, 0, none⟩ (.bool true))) := Below.setCell E2.out (show w.heap.size ≤ g from hwg) _
  clear hown0 hgrow0 hB0 c0 f0 hg E1 E2
  go_loopw [4] (fun i wr => ∃ k : Nat, i = .int .i64 k ∧ k ≤ n ∧ Hid (Ext w wr ∧ Bools wr g (reachAt ws k))) (fun i _ => n - (intOf i).toNat)
  case atStart => exact ⟨0, rfl, by omega, E3.out, HB.out⟩
  case round =>
    obtain ⟨k, rfl, hk, HR⟩ := hrel
    clear HB E3
    by_cases hlt : k < n
    · have bk : (k : Int) < (n : Int) := by omega
      have hkw : k < ws.length := by have := HA.out.2; omega
      obtain ⟨⟨o, kk, y, nn⟩, hp⟩ : ∃ p, p = ws.getD k zeroW := ⟨_, rfl⟩
      have HP : Hid ((o, kk, y, nn) = ws.getD k zeroW) := hp
      obtain ⟨b, off, rfl, c0, c1, c2, c3⟩ := (HA.out.1.ext HR.out.1).quad (k := k) hkw hp
      simp only at c0 c1 c2 c3
      have hgl := HR.out.2.1
      have HX : Hid (Blk (wr.alloc (.cells #[.int .i64 o, .int .i64 kk, .int .i64 y, .int .i64 nn] 34)) wr.heap.size [.int .i64 o, .int .i64 kk, .int .i64 y, .int .i64 nn] 34) := Blk.new wr [.int .i64 o, .int .i64 kk, .int .i64 y, .int .i64 nn] 34
      obtain ⟨zb, hzb⟩ : ∃ zb, zb = (reachAt ws k).getD k false := ⟨_, rfl⟩
      have d0 := ((HR.out.2.ext (Ext.one wr (.cells #[.int .i64 o, .int .i64 kk, .int .i64 y, .int .i64 nn] 34))).2 k (by rw [reachAt_length]; exact hkw)).1
      rw [← hzb] at d0
      clear hp
      cases zb
      · have HT : Hid (reachAt ws (k + 1) = reachAt ws k) := markR_not hzb.symm
        have E4 : Hid (Ext w wr) := HR.out.1
        clear hzb HX hkw
        go_wp2
        go_roundw
        case rel => exact ⟨k + 1, by go_num, by omega, E4.out.alloc _, by rw [HT.out]; exact HR.out.2.ext (Ext.one _ _)⟩
        case measure => simp [intOf]; omega
      by_cases h8 : o = 8
      · have HT : Hid (reachAt ws (k + 1) = reachAt ws k) := markR_ret (by rw [← HP.out]; exact h8)
        have E4 : Hid (Ext w wr) := HR.out.1
        subst h8
        clear hzb HX hkw
        go_wp2
        go_roundw
        case rel => exact ⟨k + 1, by go_num, by omega, E4.out.alloc _, by rw [HT.out]; exact HR.out.2.ext (Ext.one _ _)⟩
        case measure => simp [intOf]; omega
      have h8' : (ws.getD k zeroW).1 ≠ 8 := by rw [← HP.out]; exact h8
      have q8 : (o == 8) = false := by simpa using h8
      obtain ⟨hok, w0, w1', w2', w3'⟩ := check_ways HCH.out hkw h8'
      have hmk := markR_go hzb.symm h8'
      rw [← HP.out] at hok w0 w1' w2' w3' hmk
      obtain ⟨j1, hj1⟩ : ∃ j1, j1 = k + 1 + (yesW (o, kk, y, nn)).toNat := ⟨_, rfl⟩
      obtain ⟨j2, hj2⟩ : ∃ j2, j2 = k + 1 + (noW (o, kk, y, nn)).toNat := ⟨_, rfl⟩
      rw [← hj1, ← hj2] at hmk
      have HT : Hid (reachAt ws (k + 1) = ((reachAt ws k).set j1 true).set j2 true) := hmk
      obtain ⟨ya, hya⟩ : ∃ ya, ya = yesW (o, kk, y, nn) := ⟨_, rfl⟩
      obtain ⟨na, hna⟩ : ∃ na, na = noW (o, kk, y, nn) := ⟨_, rfl⟩
      rw [← hya] at w0 w2' hj1
      rw [← hna] at w1' w3' hj2
      have y1 : (k : Int) + 1 + ya = (j1 : Int) := by omega
      have y2 : (k : Int) + 1 + na = (j2 : Int) := by omega
      have l1 : (j1 : Int) < (n : Int) := by have := HA.out.2; omega
      have l2 : (j2 : Int) < (n : Int) := by have := HA.out.2; omega
      have L1 : j1 < n := by omega
      have L2 : j2 < n := by omega
      have hya4 : ya ≤ 400 := by omega
      have hna4 : na ≤ 400 := by omega
      by_cases h7 : o = 7
      · subst h7
        have hyk : ya = kk ∧ na = kk := by rw [hya, hna]; exact ⟨rfl, rfl⟩
        obtain ⟨rfl, rfl⟩ := hyk
        obtain rfl : j2 = j1 := by omega
        have HT2 : Hid (reachAt ws (k + 1) = (reachAt ws k).set j2 true) := by unfold Hid; rw [HT.out, List.set_set]
        have HLN : Hid (n = (reachAt ws k).length) := by unfold Hid; rw [reachAt_length]; exact HA.out.2
        obtain ⟨d1, f1⟩ := HR.out.2.2 j2 (by have := HLN.out; omega)
        have HBX : Hid (Bools (wr.setCell ⟨g, j2, none⟩ (.bool true)) g ((reachAt ws k).set j2 true)) := HR.out.2.set (by have := HLN.out; omega) true
        have E4 : Hid (Ext w wr) := HR.out.1
        clear hok h8' hmk hj1 hj2 hya hna w2' w3' hzb hkw h8 HX
        go_wp2
        go_roundw
        case rel => exact ⟨k + 1, by go_num, by omega, Ext.alloc (Below.setCell E4.out (show w.heap.size ≤ g from hwg) _) _, by rw [HT2.out]; exact Bools.ext HBX.out (Ext.one _ _)⟩
        case measure => simp [intOf]; omega
      · have q7 : (o == 7) = false := by simpa using h7
        have hyk : ya = y ∧ na = nn := by rw [hya, hna]; exact ways_plain hok h7
        obtain ⟨rfl, rfl⟩ := hyk
        have HLN : Hid (n = (reachAt ws k).length) := by unfold Hid; rw [reachAt_length]; exact HA.out.2
        obtain ⟨d1, f1⟩ := HR.out.2.2 j1 (by have := HLN.out; omega)
        obtain ⟨d2, f2⟩ := HR.out.2.2 j2 (by have := HLN.out; omega)
        have HBX : Hid (Bools ((wr.setCell ⟨g, j1, none⟩ (.bool true)).setCell ⟨g, j2, none⟩ (.bool true)) g (((reachAt ws k).set j1 true).set j2 true)) := (HR.out.2.set (by have := HLN.out; omega) true).set (by rw [List.length_set]; have := HLN.out; omega) true
        have E4 : Hid (Ext w wr) := HR.out.1
        clear hok h8' hmk hj1 hj2 hya hna w2' w3' hzb hkw h8 h7 HX
        by_cases hjj : j1 = j2
        · subst hjj
          go_wp2
          go_roundw
          case rel => exact ⟨k + 1, by go_num, by omega, Ext.alloc (Below.setCell (Below.setCell E4.out (show w.heap.size ≤ g from hwg) _) (show w.heap.size ≤ g from hwg) _) _, by rw [HT.out]; exact Bools.ext HBX.out (Ext.one _ _)⟩
          case measure => simp [intOf]; omega
        · have hjj' : j2 ≠ j1 := Ne.symm hjj
          go_wp2
          go_roundw
          case rel => exact ⟨k + 1, by go_num, by omega, Ext.alloc (Below.setCell (Below.setCell E4.out (show w.heap.size ≤ g from hwg) _) (show w.heap.size ≤ g from hwg) _) _, by rw [HT.out]; exact Bools.ext HBX.out (Ext.one _ _)⟩
          case measure => simp [intOf]; omega
    · have hkn : k = n := by omega
      have bk : ¬ ((k : Int) < (n : Int)) := by omega
      have E4 : Hid (Ext w wr ∧ Bools wr g (reachAt ws n)) := by rw [← hkn]; exact HR.out
      have HL : Hid (n = (reachAt ws n).length) := by unfold Hid; rw [reachAt_length]; exact HA.out.2
      clear hkn
      go_wp2
      go_ret
      refine ⟨_, rfl, ?_, E4.out.1⟩
      rw [HZ.out]
      exact ⟨some ⟨g, 0, none⟩, n, by rw [← HL.out]; rfl, fun _ => ⟨g, rfl, hwg, E4.out.2⟩⟩

end Go.Proofs.Ytaigoggoibdgbaa
