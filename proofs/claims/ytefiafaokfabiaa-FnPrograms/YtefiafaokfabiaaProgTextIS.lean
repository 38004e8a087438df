/- What impl's and spec's ProgramText answer of every program: the same plain function. -/
import Derived.Test.YtefiafaokfabiaaInsSl
import Derived.Lib.AppendStr
namespace Go.Proofs.Ytefiafaokfabiaa
open Go.RowKit
set_option linter.unusedVariables false

theorem textP_long {ws : List Wd} (h : inB ws.length 1 400 = false) : textP ws = none := by
  rw [inB_false] at h
  unfold textP
  rw [if_neg]
  omega

theorem textP_bad {ws : List Wd} {k : Nat} (hk : k < ws.length) (h : okW (ws.getD k zeroW) = false) : textP ws = none := by
  unfold textP
  rw [if_neg]
  rintro ⟨_, _, h3⟩
  rw [List.all_eq_true] at h3
  have := h3 (ws.getD k zeroW) (by simp [List.getD_eq_getElem?_getD, hk])
  rw [h] at this
  cases this

theorem textP_good {ws : List Wd} (h : inB ws.length 1 400 = true) (ha : ∀ k, k < ws.length → okW (ws.getD k zeroW) = true) : textP ws = some (bytesP ws) := by
  rw [inB_true] at h
  unfold textP
  rw [if_pos]
  refine ⟨by omega, by omega, List.all_eq_true.2 fun x hx => ?_⟩
  obtain ⟨k, hk, rfl⟩ := List.mem_iff_getElem.1 hx
  have := ha k hk
  simpa [List.getD_eq_getElem?_getD, hk] using this

theorem bytesP_take {ws : List Wd} {k : Nat} (hk : k < ws.length) : bytesP (ws.take (k + 1)) = bytesP (ws.take k) ++ bytesW (ws.getD k zeroW) := by
  rw [List.take_succ_eq_append_getElem hk]
  simp only [bytesP, List.flatMap_append, List.flatMap_cons, List.flatMap_nil, List.append_nil]
  rw [show ws.getD k zeroW = ws[k] by simp [List.getD_eq_getElem?_getD, hk]]

theorem bytesP_take_length {ws : List Wd} {k : Nat} (hk : k ≤ ws.length) : (bytesP (ws.take k)).length = 7 * k := by
  rw [bytesP_length, List.length_take, Nat.min_eq_left hk]

theorem own_slice {w : World} {base e size : Nat} {v : Value} {n : Nat} {xs : List Value} (h : w.ownsRow base e size v n xs) : ∃ ao cap, v = .slice ao n cap := by
  rcases h.2 with ⟨rfl, h0⟩ | ⟨g, cap, cur, rfl, _⟩
  · exact ⟨none, 0, by rw [h0]⟩
  · exact ⟨_, _, rfl⟩

theorem strCells_L (l : List UInt8) : Lib.strCells ⟨l.toArray⟩ = bytesV l := by
  simp [Lib.strCells, bytesV]

set_option maxRecDepth 100000 in
set_option maxHeartbeats 2000000 in
theorem sProgText_any (a : Option Addr) (cap : Nat) (ws : List Wd) (w : World) (hl : ws.length ≤ 1048576) (h : Words w a ws) :
    Calls Try.prog 21 #[.slice a ws.length cap] w fun e w' => e = .returned (.tuple #[.string ⟨((textP ws).getD []).toArray⟩, .bool (textP ws).isSome]) ∧ Ext w w' := by
  obtain ⟨n, hn⟩ : ∃ n, n = ws.length := ⟨_, rfl⟩
  obtain ⟨t, ht⟩ : ∃ t, t = (textP ws).getD [] := ⟨_, rfl⟩
  obtain ⟨z, hz⟩ : ∃ z, z = (textP ws).isSome := ⟨_, rfl⟩
  have HA : Hid (Words w a ws ∧ n = ws.length ∧ t = (textP ws).getD [] ∧ z = (textP ws).isSome) := ⟨h, hn, ht, hz⟩
  rw [← hn, ← ht, ← hz]
  have hl' : n ≤ 1048576 := by omega
  clear h hn hl ht hz
  go_enter Try.func21, Try.ntmps21
  go_wp2_with fail
  go_loopw [4, 5] (fun v i wr => ∃ k : Nat, i = .int .i64 k ∧ v = .string ⟨(bytesP (ws.take k)).toArray⟩ ∧ k ≤ n ∧ Hid (Ext w wr ∧ ∀ j, j < k → okW (ws.getD j zeroW) = true)) (fun _ i _ => n - (intOf i).toNat)
  case atStart => exact ⟨0, rfl, by simp [bytesP], by omega, Ext.refl _, fun j hj => by omega⟩
  case round =>
    obtain ⟨k, rfl, rfl, hk, HR⟩ := hrel
    by_cases hlt : k < n
    · have bk : (k : Int) < (n : Int) := by omega
      obtain ⟨⟨o, kk, y, nn⟩, hp⟩ : ∃ p, p = ws.getD k zeroW := ⟨_, rfl⟩
      obtain ⟨b, off, rfl, c0, c1, c2, c3⟩ := (HA.out.1.ext HR.out.1).quad (k := k) (by have := HA.out.2.1; omega) hp
      simp only at c0 c1 c2 c3
      have HP : Hid ((o, kk, y, nn) = ws.getD k zeroW) := hp
      clear hp
      cases hok : okW (o, kk, y, nn)
      · have HI : Hid (∀ w, Calls Try.prog 26 #[.agg #[.int .i64 o, .int .i64 kk, .int .i64 y, .int .i64 nn]] w fun e w' => e = .returned (.tuple #[.string ⟨#[]⟩, .bool false]) ∧ Ext w w') := fun w => by
          have := sInsText_any (o, kk, y, nn) w
          rw [textW_none hok] at this
          exact this
        have HT : Hid (textP ws = none) := textP_bad (k := k) (by have := HA.out.2.1; omega) (by rw [← HP.out]; exact hok)
        clear hok
        go_wp2_with fail
        refine (HI.out _).mono ?_
        rintro e w2 ⟨rfl, e2⟩
        have E2 : Hid (Ext w w2) := HR.out.1.trans e2
        clear e2 HI c0 c1 c2 c3
        go_wp2
        refine bodyPost_ret (v := .tuple #[.string ⟨#[]⟩, .bool false]) (by simp [results, Try.results21, go_sem]) rfl ⟨by rw [HA.out.2.2.1, HA.out.2.2.2, HT.out]; rfl, E2.out⟩
      · obtain ⟨u, hu⟩ : ∃ u, u = bytesW (o, kk, y, nn) := ⟨_, rfl⟩
        have HI : Hid (∀ w, Calls Try.prog 26 #[.agg #[.int .i64 o, .int .i64 kk, .int .i64 y, .int .i64 nn]] w fun e w' => e = .returned (.tuple #[.string ⟨u.toArray⟩, .bool true]) ∧ Ext w w') := fun w => by
          have := sInsText_any (o, kk, y, nn) w
          rw [textW_some hok] at this
          rw [hu]
          exact this
        have HT : Hid (bytesP (ws.take (k + 1)) = bytesP (ws.take k) ++ u ∧ okW (ws.getD k zeroW) = true) := ⟨by rw [bytesP_take (by have := HA.out.2.1; omega), ← HP.out, hu], by rw [← HP.out]; exact hok⟩
        have s1 : (⟨(bytesP (ws.take k)).toArray⟩ : ByteArray).size = 7 * k := by show (bytesP (ws.take k)).toArray.size = _; rw [List.size_toArray, bytesP_take_length (by have := HA.out.2.1; omega)]
        have s2 : (⟨u.toArray⟩ : ByteArray).size = 7 := by show u.toArray.size = _; rw [List.size_toArray, hu, bytesW_length]
        clear hok hu
        go_wp2_with fail
        refine (HI.out _).mono ?_
        rintro e w2 ⟨rfl, e2⟩
        have E2 : Hid (Ext w w2) := HR.out.1.trans e2
        clear e2 HI c0 c1 c2 c3
        go_wp2
        go_roundw
        case rel =>
          refine ⟨k + 1, by go_num, by rw [HT.out.1, ← text_app], by omega, E2.out, fun j hj => ?_⟩
          by_cases hjk : j = k
          · rw [hjk]; exact HT.out.2
          · exact HR.out.2 j (by omega)
        case measure => simp [intOf]; omega
    · have hkn : k = n := by omega
      have bk : ¬ ((k : Int) < (n : Int)) := by omega
      have E2 : Hid (Ext w wr) := HR.out.1
      cases hf : inB n 1 400
      · have HT : Hid (textP ws = none) := textP_long (by rw [← HA.out.2.1]; exact hf)
        go_wp2_with (go_at_call 41; refine (in_any _ _ _ _).mono ?_; rintro e w' ⟨rfl, rfl⟩)
        refine bodyPost_ret (v := .tuple #[.string ⟨#[]⟩, .bool false]) (by simp [results, Try.results21, go_sem]) rfl ⟨by rw [HA.out.2.2.1, HA.out.2.2.2, HT.out]; rfl, E2.out⟩
      · have HT : Hid (textP ws = some (bytesP ws) ∧ ws.take k = ws) := ⟨textP_good (by rw [← HA.out.2.1]; exact hf) (fun j hj => HR.out.2 j (by have := HA.out.2.1; omega)), List.take_of_length_le (by have := HA.out.2.1; omega)⟩
        obtain ⟨T, hT⟩ : ∃ T : ByteArray, T = ⟨(bytesP (ws.take k)).toArray⟩ := ⟨_, rfl⟩
        rw [← hT]
        have HT2 : Hid (T = ⟨(bytesP (ws.take k)).toArray⟩) := hT
        clear hT
        go_wp2_with (go_at_call 41; refine (in_any _ _ _ _).mono ?_; rintro e w' ⟨rfl, rfl⟩)
        refine bodyPost_ret (v := .tuple #[.string T, .bool true]) (by simp [results, Try.results21, go_sem]) rfl ⟨by rw [HA.out.2.2.1, HA.out.2.2.2, HT.out.1, HT2.out, HT.out.2]; rfl, E2.out⟩

set_option maxRecDepth 100000 in
set_option maxHeartbeats 2000000 in
theorem iProgText_any (a : Option Addr) (cap : Nat) (ws : List Wd) (w : World) (hl : ws.length ≤ 1048576) (h : Words w a ws) :
    Calls Try.prog 11 #[.slice a ws.length cap] w fun e w' => e = .returned (.tuple #[.string ⟨((textP ws).getD []).toArray⟩, .bool (textP ws).isSome]) ∧ Ext w w' := by
  obtain ⟨i0, hi, hz0, hz1, hz2⟩ := info_parts Try.infoB
  obtain ⟨n, hn⟩ : ∃ n, n = ws.length := ⟨_, rfl⟩
  obtain ⟨t, ht⟩ : ∃ t, t = (textP ws).getD [] := ⟨_, rfl⟩
  obtain ⟨z, hz⟩ : ∃ z, z = (textP ws).isSome := ⟨_, rfl⟩
  have HA : Hid (Words w a ws ∧ n = ws.length ∧ t = (textP ws).getD [] ∧ z = (textP ws).isSome) := ⟨h, hn, ht, hz⟩
  rw [← hn, ← ht, ← hz]
  have hl' : n ≤ 1048576 := by omega
  clear h hn hl ht hz
  cases hf : inB n 1 400
  · have HT : Hid (textP ws = none) := textP_long (by rw [← HA.out.2.1]; exact hf)
    go_enter Try.func11, Try.ntmps11
    go_wp2_with (go_at_call 35; refine (fits_any _ _).mono ?_; rintro e w' ⟨rfl, rfl⟩)
    refine bodyPost_ret (v := .tuple #[.string ⟨#[]⟩, .bool false]) (by simp [results, Try.results11, go_sem]) rfl ⟨by rw [HA.out.2.2.1, HA.out.2.2.2, HT.out]; rfl, Ext.refl _⟩
  have hn4 : n ≤ 400 := by rw [inB_true] at hf; omega
  go_enter Try.func11, Try.ntmps11
  go_wp2_with (first | (go_at_call 35; refine (fits_any _ _).mono ?_; rintro e w' ⟨rfl, rfl⟩) | (at_make; refine wpList_make_own _ rfl _ _ 22 rfl w.heap.size 5 i0 (.int .u8 0) 1 Try.underlying22 hi hz0 hz1 _ _ _ (7 * n) rfl rfl (by omega) (by rw [hz2]; omega) (by unfold maxLen; omega) (Nat.le_refl _) ?_; intro w0 hown0 hgrow0))
  have hb0 : Ext w w0 := (Below.refl _ _).grown hgrow0 (Nat.le_refl _) (fun k hk => by cases hk)
  have HF : Hid (inB n 1 400 = true) := hf
  clear hf
  go_loopw [4, 19] (fun v i wr => ∃ k : Nat, i = .int .i64 k ∧ k ≤ n ∧ wr.ownsRow w.heap.size 5 1 v (7 * k) (bytesV (bytesP (ws.take k))) ∧ Hid (Ext w wr ∧ ∀ j, j < k → okW (ws.getD j zeroW) = true)) (fun _ i _ => n - (intOf i).toNat)
  case atStart => exact ⟨0, rfl, by omega, by simpa [bytesP, bytesV] using hown0, hb0, fun j hj => by omega⟩
  case round =>
    obtain ⟨k, rfl, hk, hown, HR⟩ := hrel
    obtain ⟨ao, cc, rfl⟩ := own_slice hown
    have hbs := HR.out.1.size
    clear hown0 hgrow0 hb0
    by_cases hlt : k < n
    · have bk : (k : Int) < (n : Int) := by omega
      obtain ⟨⟨o, kk, y, nn⟩, hp⟩ : ∃ p, p = ws.getD k zeroW := ⟨_, rfl⟩
      obtain ⟨b, off, rfl, c0, c1, c2, c3⟩ := (HA.out.1.ext HR.out.1).quad (k := k) (by have := HA.out.2.1; omega) hp
      simp only at c0 c1 c2 c3
      have HP : Hid ((o, kk, y, nn) = ws.getD k zeroW) := hp
      clear hp
      cases hok : okW (o, kk, y, nn)
      · have HI : Hid (∀ w, Calls Try.prog 16 #[.agg #[.int .i64 o, .int .i64 kk, .int .i64 y, .int .i64 nn]] w fun e w' => e = .returned (.tuple #[.string ⟨#[]⟩, .bool false]) ∧ Ext w w') := fun w => by
          have := iInsText_any (o, kk, y, nn) w
          rw [textW_none hok] at this
          exact this
        have HT : Hid (textP ws = none) := textP_bad (k := k) (by have := HA.out.2.1; omega) (by rw [← HP.out]; exact hok)
        clear hok hown
        go_wp2_with fail
        refine (HI.out _).mono ?_
        rintro e w2 ⟨rfl, e2⟩
        have E2 : Hid (Ext w w2) := (HR.out.1.alloc _).trans e2
        clear e2 HI c0 c1 c2 c3
        go_wp2
        refine bodyPost_ret (v := .tuple #[.string ⟨#[]⟩, .bool false]) (by simp [results, Try.results11, go_sem]) rfl ⟨by rw [HA.out.2.2.1, HA.out.2.2.2, HT.out]; rfl, E2.out⟩
      · obtain ⟨u, hu⟩ : ∃ u, u = bytesW (o, kk, y, nn) := ⟨_, rfl⟩
        have HI : Hid (∀ w, Calls Try.prog 16 #[.agg #[.int .i64 o, .int .i64 kk, .int .i64 y, .int .i64 nn]] w fun e w' => e = .returned (.tuple #[.string ⟨u.toArray⟩, .bool true]) ∧ Ext w w') := fun w => by
          have := iInsText_any (o, kk, y, nn) w
          rw [textW_some hok] at this
          rw [hu]
          exact this
        have HT : Hid (bytesP (ws.take (k + 1)) = bytesP (ws.take k) ++ u ∧ okW (ws.getD k zeroW) = true) := ⟨by rw [bytesP_take (by have := HA.out.2.1; omega), ← HP.out, hu], by rw [← HP.out]; exact hok⟩
        have s2 : (⟨u.toArray⟩ : ByteArray).size = 7 := by show u.toArray.size = _; rw [List.size_toArray, hu, bytesW_length]
        have HO : Hid (wr.ownsRow w.heap.size 5 1 (.slice ao (7 * k) cc) (7 * k) (bytesV (bytesP (ws.take k)))) := hown
        clear hok hu hown
        go_wp2_with fail
        refine (HI.out _).mono ?_
        rintro e w2 ⟨rfl, e2⟩
        have hown2 := own_below (HO.out.alloc _) e2
        have E2 : Hid (Ext w w2) := (HR.out.1.alloc _).trans e2
        have hz2' := E2.out.size
        clear e2 HI c0 c1 c2 c3 HO
        go_wp2_with (at_builtin; refine Lib.wpList_append_own_string _ rfl _ _ 22 9 rfl w.heap.size 5 i0 Try.underlying22 Try.underlying9 hi hz0 hz1 hz2 _ (7 * k) _ rfl hown2 ⟨u.toArray⟩ rfl ?c1 ?c2 ?c3 ?_)
        case c1 => rw [s2]; unfold maxLen; omega
        case c2 => rw [s2]; omega
        case c3 => exact hz2'
        · intro v' w3 hown3 hgrow _
          rw [strCells_L, show bytesV (bytesP (ws.take k)) ++ bytesV u = bytesV (bytesP (ws.take k) ++ u) by simp [bytesV], ← HT.out.1] at hown3
          have E3 : Hid (Ext w w3) := Below.grown E2.out hgrow hz2' (fun x hx => (hown2.lt x hx).1)
          clear hgrow hown2
          go_wp2
          go_roundw
          case rel =>
            refine ⟨k + 1, by go_num, by omega, by rw [show 7 * (k + 1) = 7 * k + 7 by omega]; exact hown3, E3.out, fun j hj => ?_⟩
            by_cases hjk : j = k
            · rw [hjk]; exact HT.out.2
            · exact HR.out.2 j (by omega)
          case measure => simp [intOf]; omega
    · have hkn : k = n := by omega
      have bk : ¬ ((k : Int) < (n : Int)) := by omega
      have HT : Hid (textP ws = some (bytesP ws) ∧ ws.take k = ws) := ⟨textP_good (by rw [← HA.out.2.1]; exact HF.out) (fun j hj => HR.out.2 j (by have := HA.out.2.1; omega)), List.take_of_length_le (by have := HA.out.2.1; omega)⟩
      have E2 : Hid (Ext w wr) := HR.out.1
      have hl7 : (bytesP (ws.take k)).length = 7 * k := bytesP_take_length (by have := HA.out.2.1; omega)
      rw [← hl7] at hown
      have hq := own_convert (P := Try.prog) hown Try.underlying22 Try.underlying5 Try.underlying9
      rw [hl7] at hq
      obtain ⟨T, hT⟩ : ∃ T : ByteArray, T = ⟨(bytesP (ws.take k)).toArray⟩ := ⟨_, rfl⟩
      rw [← hT] at hq
      have HT2 : Hid (T = ⟨(bytesP (ws.take k)).toArray⟩) := hT
      clear hT hown hl7 hkn
      go_wp2
      refine bodyPost_ret (v := .tuple #[.string T, .bool true]) (by simp [results, Try.results11, go_sem]) rfl ⟨by rw [HA.out.2.2.1, HA.out.2.2.2, HT.out.1, HT2.out, HT.out.2]; rfl, E2.out⟩

end Go.Proofs.Ytefiafaokfabiaa
