/- What spec's Run answers, of every program and every call. -/
import Derived.Test.YtaigoggoibdgbaaRunMath
import Derived.Test.YtaigoggoibdgbaaCheckIS
import Derived.Test.YtaigoggoibdgbaaCallRep
namespace Go.Proofs.Ytaigoggoibdgbaa
open Go.RowKit
set_option linter.unusedVariables false

theorem num_eq {a b : Int} (h : a = b) : Value.int .i64 a = Value.int .i64 b := by rw [h]

/-- What a run gives: its result and how many words were done; 0 and 0, where the program or the call is not right. -/
def RunR (ws : List Wd) (arch num : Int) (cs : List (Int × Int)) (res : Int) (m : Nat) : Prop :=
  (checkP ws = true ∧ callB arch num cs = true ∧ ∃ f, Runs ws (fieldR arch num cs) f 0 0 0 res m) ∨ ((checkP ws = false ∨ callB arch num cs = false) ∧ res = 0 ∧ m = 0)

theorem runR_some (ws : List Wd) (arch num : Int) (cs : List (Int × Int)) : ∃ res m, RunR ws arch num cs res m := by
  cases hc : checkP ws
  · exact ⟨0, 0, .inr ⟨.inl hc, rfl, rfl⟩⟩
  cases hb : callB arch num cs
  · exact ⟨0, 0, .inr ⟨.inr hb, rfl, rfl⟩⟩
  obtain ⟨res, m, h⟩ := runs_some (fieldR arch num cs) hc ws.length 0 0 0 (by rw [checkP_true] at hc; have := hc.1; omega) (by omega)
  exact ⟨res, m, .inl ⟨hc, hb, _, h⟩⟩

set_option maxHeartbeats 1600000 in
theorem sAsks_any (r o k y n : Int) (w : World) (ho : o = 3 ∨ o = 4 ∨ o = 5 ∨ o = 6) :
    Calls Try.prog 47 #[.agg #[.int .i64 o, .int .i64 k, .int .i64 y, .int .i64 n], .int .i64 r] w fun e w' => e = .returned (.bool (asksW (o, k, y, n) r)) ∧ Ext w w' := by
  obtain ⟨z, hz⟩ : ∃ z, z = asksW (o, k, y, n) r := ⟨_, rfl⟩
  rw [← hz]
  rcases ho with rfl | rfl | rfl | rfl
  · have HZ : Hid (z = (r == k)) := hz
    clear hz
    go_enter Try.func47, Try.ntmps47
    go_wp2
    go_ret
    exact ⟨by rw [HZ.out]; rfl, Ext.one _ _⟩
  · have HZ : Hid (z = decide (k < r)) := hz
    clear hz
    go_enter Try.func47, Try.ntmps47
    go_wp2
    go_ret
    exact ⟨by rw [HZ.out]; rfl, Ext.one _ _⟩
  · have HZ : Hid (z = decide (k ≤ r)) := hz
    clear hz
    go_enter Try.func47, Try.ntmps47
    go_wp2
    go_ret
    exact ⟨by rw [HZ.out]; rfl, Ext.one _ _⟩
  · have HZ : Hid (z = (bits .and .i64 r k != 0)) := hz
    clear hz
    go_enter Try.func47, Try.ntmps47
    go_wp2
    go_ret
    exact ⟨by rw [HZ.out]; rfl, Ext.one _ _⟩

set_option maxRecDepth 100000 in
set_option maxHeartbeats 4000000 in
theorem sRun_any (a : Option Addr) (cap : Nat) (ws : List Wd) (arch num : Int) (cs : List (Int × Int)) (v : Value) (res : Int) (mm : Nat) (w : World) (hl : ws.length ≤ 1048576) (h : Words w a ws) (hcl : cs.length ≤ 1048576) (hR : RepCall arch num cs v w) (hres : RunR ws arch num cs res mm) :
    Calls Try.prog 16 #[.slice a ws.length cap, v] w fun e w' => e = .returned (.tuple #[.int .i64 res, .int .i64 (mm : Int)]) ∧ Ext w w' := by
  obtain ⟨n, hn⟩ : ∃ n, n = ws.length := ⟨_, rfl⟩
  obtain ⟨ca, cc, rfl, hw⟩ := hR
  obtain ⟨cl, hcl'⟩ : ∃ cl, cl = cs.length := ⟨_, rfl⟩
  have HA : Hid (Words w a ws ∧ n = ws.length) := ⟨h, hn⟩
  have HC : Hid (∀ w1, Ext w w1 → RepCall arch num cs (.agg #[.int .i64 arch, .int .i64 num, .slice ca cl cc]) w1) := fun w1 he => by rw [hcl']; exact RepCall.step ⟨ca, cc, rfl, hw⟩ he
  have HCK : Hid (∀ w1, Ext w w1 → Calls Try.prog 12 #[.slice a n cap] w1 fun e w' => e = .returned (.bool (checkP ws)) ∧ Ext w1 w') := fun w1 he => by rw [hn]; exact sCheck_any a cap ws w1 hl (h.ext he)
  have HCO : Hid (∀ w1, Ext w w1 → Calls Try.prog 45 #[.agg #[.int .i64 arch, .int .i64 num, .slice ca cl cc]] w1 fun e w' => e = .returned (.bool (callB arch num cs)) ∧ Ext w1 w') := fun w1 he => sCall_rep arch num cs _ w1 hcl (HC.out w1 he)
  have HFI : Hid (∀ k w1, Ext w w1 → Calls Try.prog 46 #[.agg #[.int .i64 arch, .int .i64 num, .slice ca cl cc], .int .i64 k] w1 fun e w' => e = .returned (.tuple #[.int .i64 (fieldR arch num cs k), .bool (fieldOk arch num cs k)]) ∧ Ext w1 w') := fun k w1 he => sField_rep arch num cs k _ w1 hcl (HC.out w1 he)
  have HRES : Hid (RunR ws arch num cs res mm) := hres
  have b0 : Hid (Blk (w.alloc (.cells #[.int .i64 arch, .int .i64 num, .slice ca cl cc] 28)) w.heap.size [.int .i64 arch, .int .i64 num, .slice ca cl cc] 28) := Blk.new w [.int .i64 arch, .int .i64 num, .slice ca cl cc] 28
  rw [← hn, ← hcl']
  have hl' : n ≤ 1048576 := by omega
  clear h hn hl hcl hcl' hres hw
  cases hck : checkP ws
  · have HZ : Hid (res = 0 ∧ mm = 0) := by
      rcases HRES.out with ⟨h, _⟩ | ⟨_, h⟩
      · rw [hck] at h; cases h
      · exact h
    rw [hck] at HCK
    clear hck
    go_enter Try.func16, Try.ntmps16
    go_wp2_with fail
    refine (HCK.out _ (Ext.one _ _)).mono ?_
    rintro e w1 ⟨rfl, e1⟩
    have E1 : Hid (Ext w w1) := (Ext.one _ _).trans e1
    clear e1
    go_wp2
    go_ret2
    exact ⟨by rw [HZ.out.1, HZ.out.2]; rfl, E1.out⟩
  cases hcb : callB arch num cs
  · have HZ : Hid (res = 0 ∧ mm = 0) := by
      rcases HRES.out with ⟨_, h, _⟩ | ⟨_, h⟩
      · rw [hcb] at h; cases h
      · exact h
    rw [hck] at HCK
    rw [hcb] at HCO
    clear hck hcb
    go_enter Try.func16, Try.ntmps16
    go_wp2_with fail
    refine (HCK.out _ (Ext.one _ _)).mono ?_
    rintro e w1 ⟨rfl, e1⟩
    have E1 : Hid (Ext w w1) := (Ext.one _ _).trans e1
    have b1 := b0.out.ext e1
    obtain ⟨q0, q1, q2⟩ := (⟨b1.cell 0 _ rfl, b1.cell 1 _ rfl, b1.cell 2 _ rfl⟩ : _ ∧ _ ∧ _)
    clear e1 b1
    go_wp2_with fail
    refine (HCO.out _ E1.out).mono ?_
    rintro e w2 ⟨rfl, e2⟩
    have E2 : Hid (Ext w w2) := E1.out.trans e2
    clear e2 q0 q1 q2
    go_wp2
    go_ret2
    exact ⟨by rw [HZ.out.1, HZ.out.2]; rfl, E2.out⟩
  have HRUN : Hid (∃ f, Runs ws (fieldR arch num cs) f 0 0 0 res mm) := by
    rcases HRES.out with ⟨_, _, h⟩ | ⟨h, _⟩
    · exact h
    · rcases h with h | h
      · rw [hck] at h; cases h
      · rw [hcb] at h; cases h
  have HCH : Hid (checkP ws = true) := hck
  have hn4 : 1 ≤ n ∧ n ≤ 400 := by have h := hck; rw [checkP_true] at h; have := h.1; have := HA.out.2; omega
  obtain ⟨hn1, hn4⟩ := hn4
  rw [hck] at HCK
  rw [hcb] at HCO
  clear hck hcb HRES
  go_enter Try.func16, Try.ntmps16
  go_wp2_with fail
  refine (HCK.out _ (Ext.one _ _)).mono ?_
  rintro e w1 ⟨rfl, e1⟩
  have E1 : Hid (Ext w w1) := (Ext.one _ _).trans e1
  have B1 : Hid (Blk w1 w.heap.size [.int .i64 arch, .int .i64 num, .slice ca cl cc] 28) := b0.out.ext e1
  obtain ⟨q0, q1, q2⟩ := (⟨B1.out.cell 0 _ rfl, B1.out.cell 1 _ rfl, B1.out.cell 2 _ rfl⟩ : _ ∧ _ ∧ _)
  clear e1 HCK
  go_wp2_with fail
  refine (HCO.out _ E1.out).mono ?_
  rintro e w2 ⟨rfl, e2⟩
  have E2 : Hid (Ext w w2) := E1.out.trans e2
  have B2 : Hid (Blk w2 w.heap.size [.int .i64 arch, .int .i64 num, .slice ca cl cc] 28) := B1.out.ext e2
  clear e2 q0 q1 q2 HCO B1 E1 b0
  go_wp2_with fail
  go_loopw [6, 7, 8] (fun v6 v7 v8 wr => ∃ (r : Int) (s i : Nat), v6 = .int .i64 r ∧ v7 = .int .i64 s ∧ v8 = .int .i64 i ∧ i < n ∧ s ≤ i ∧ Hid (Ext w wr ∧ Blk wr w.heap.size [.int .i64 arch, .int .i64 num, .slice ca cl cc] 28 ∧ ∃ f, Runs ws (fieldR arch num cs) f i r s res mm)) (fun _ _ v8 _ => n - (intOf v8).toNat)
  case atStart => exact ⟨0, 0, 0, rfl, rfl, rfl, by omega, by omega, E2.out, B2.out, HRUN.out⟩
  case round =>
    obtain ⟨r, s, i, rfl, rfl, rfl, hi, hs, HR⟩ := hrel
    have bi : (i : Int) < (n : Int) := by omega
    have hin : i < ws.length := by have := HA.out.2; omega
    obtain ⟨⟨o, k, y, nn⟩, hp⟩ : ∃ p, p = ws.getD i zeroW := ⟨_, rfl⟩
    have HP : Hid ((o, k, y, nn) = ws.getD i zeroW) := hp
    obtain ⟨b, off, rfl, c0, c1, c2, c3⟩ := (HA.out.1.ext HR.out.1).quad (k := i) hin hp
    simp only at c0 c1 c2 c3
    clear hp HRUN E2 B2
    by_cases h8 : o = 8
    · have HZ : Hid (res = k ∧ mm = s + 1) := by
        obtain ⟨f, hf⟩ := HR.out.2.2
        have := runs_ret hf (by rw [← HP.out]; exact h8)
        rw [← HP.out] at this
        exact this
      have E3 : Hid (Ext w wr) := HR.out.1
      subst h8
      clear hin
      go_wp2
      go_ret2
      exact ⟨by rw [HZ.out.1, HZ.out.2]; rfl, E3.out.alloc _⟩
    have h8' : (ws.getD i zeroW).1 ≠ 8 := by rw [← HP.out]; exact h8
    have hok := (check_ways HCH.out hin h8').1
    have hnx := next_lt HCH.out hin h8' r
    obtain ⟨f, hf⟩ := HR.out.2.2
    obtain ⟨f', hf'⟩ := runs_next hf h8'
    rw [← HP.out] at hok hnx hf'
    rw [okW_P] at hok
    unfold insP at hok
    simp only at hok
    obtain ⟨ov, hov⟩ : ∃ ov, ov = overW (o, k, y, nn) r := ⟨_, rfl⟩
    obtain ⟨rg, hrg⟩ : ∃ rg, rg = regW (fieldR arch num cs) (o, k, y, nn) r := ⟨_, rfl⟩
    rw [← hov, ← hrg] at hf'
    rw [← hov] at hnx
    obtain ⟨j, hj⟩ : ∃ j, j = i + 1 + ov.toNat := ⟨_, rfl⟩
    rw [← hj] at hf' hnx
    have hji : (j : Int) = (i : Int) + 1 + ov := by omega
    have hjn : j < n := by have := HA.out.2; omega
    have HF : Hid (∃ f, Runs ws (fieldR arch num cs) f j rg (s + 1) res mm) := ⟨f', hf'⟩
    have hov0 := hnx.2
    clear hf hf' h8' hnx hin
    have ho : o = 1 ∨ o = 2 ∨ (o = 3 ∨ o = 4 ∨ o = 5 ∨ o = 6) ∨ o = 7 := by omega
    rcases ho with rfl | rfl | ho | rfl
    · have hov1 : ov = 0 := hov
      have hrg1 : rg = fieldR arch num cs k := hrg
      have b1 := HR.out.2.1.alloc (.cells #[.int .i64 1, .int .i64 k, .int .i64 y, .int .i64 nn] 34)
      obtain ⟨q0, q1, q2⟩ := (⟨b1.cell 0 _ rfl, b1.cell 1 _ rfl, b1.cell 2 _ rfl⟩ : _ ∧ _ ∧ _)
      have FI : Hid (∀ w1, Ext w w1 → Calls Try.prog 46 #[.agg #[.int .i64 arch, .int .i64 num, .slice ca cl cc], .int .i64 k] w1 fun e w' => e = .returned (.tuple #[.int .i64 rg, .bool (fieldOk arch num cs k)]) ∧ Ext w1 w') := by rw [hrg1]; exact HFI.out k
      have hz := HR.out.2.1.lt
      clear hok hov hrg hrg1 b1
      go_wp2_with fail
      refine (FI.out _ (HR.out.1.alloc _)).mono ?_
      rintro e w3 ⟨rfl, e3⟩
      have E3 : Hid (Ext w w3) := (HR.out.1.alloc _).trans e3
      have B3 : Hid (Blk w3 w.heap.size [.int .i64 arch, .int .i64 num, .slice ca cl cc] 28) := (HR.out.2.1.alloc _).ext e3
      clear e3 q0 q1 q2 c0 c1 c2 c3
      go_wp2
      go_roundw
      case rel => exact ⟨rg, s + 1, j, rfl, num_eq (by omega), num_eq (by omega), hjn, by omega, E3.out, B3.out, HF.out⟩
      case measure => simp [intOf]; omega
    · have hov1 : ov = 0 := hov
      have hrg1 : rg = bits .and .i64 r k := hrg
      have E3 : Hid (Ext w wr) := HR.out.1
      have B3 : Hid (Blk wr w.heap.size [.int .i64 arch, .int .i64 num, .slice ca cl cc] 28) := HR.out.2.1
      clear hok hov hrg
      go_wp2
      go_roundw
      case rel => exact ⟨rg, s + 1, j, num_eq hrg1.symm, num_eq (by omega), num_eq (by omega), hjn, by omega, E3.out.alloc _, B3.out.alloc _, HF.out⟩
      case measure => simp [intOf]; omega
    · have hov1 : ov = if asksW (o, k, y, nn) r = true then y else nn := by rw [hov]; unfold overW; rw [if_pos (by simp only; omega)]
      have hrg1 : rg = r := by rw [hrg]; unfold regW; rw [if_neg (by simp only; omega), if_neg (by simp only; omega)]
      have AI : Hid (∀ w1, Calls Try.prog 47 #[.agg #[.int .i64 o, .int .i64 k, .int .i64 y, .int .i64 nn], .int .i64 r] w1 fun e w' => e = .returned (.bool (asksW (o, k, y, nn) r)) ∧ Ext w1 w') := fun w1 => sAsks_any r o k y nn w1 ho
      have hy15 : 0 ≤ y ∧ y ≤ 15 ∧ 0 ≤ nn ∧ nn ≤ 15 := by omega
      obtain ⟨hy0, hy15, hn0, hn15⟩ := hy15
      have HX : Hid (Blk (wr.alloc (.cells #[.int .i64 o, .int .i64 k, .int .i64 y, .int .i64 nn] 34)) wr.heap.size [.int .i64 o, .int .i64 k, .int .i64 y, .int .i64 nn] 34) := Blk.new wr [.int .i64 o, .int .i64 k, .int .i64 y, .int .i64 nn] 34
      clear hok hov hrg
      cases hq : asksW (o, k, y, nn) r
      · rw [hq] at AI
        rw [hq, if_neg (by simp)] at hov1
        clear hq
        rcases ho with rfl | rfl | rfl | rfl
        all_goals
          go_wp2_with fail
          refine (AI.out _).mono ?_
          rintro e w3 ⟨rfl, e3⟩
          have E3 : Hid (Ext w w3) := (HR.out.1.alloc _).trans e3
          have B3 : Hid (Blk w3 w.heap.size [.int .i64 arch, .int .i64 num, .slice ca cl cc] 28) := (HR.out.2.1.alloc _).ext e3
          have d2 := (HX.out.ext e3).cell 2 _ rfl
          have d3 := (HX.out.ext e3).cell 3 _ rfl
          clear e3 c0 c1 c2 c3
          go_wp2
          go_roundw
          case rel => exact ⟨rg, s + 1, j, num_eq hrg1.symm, num_eq (by omega), num_eq (by omega), hjn, by omega, E3.out, B3.out, HF.out⟩
          case measure => simp [intOf]; omega
      · rw [hq] at AI
        rw [hq, if_pos rfl] at hov1
        clear hq
        rcases ho with rfl | rfl | rfl | rfl
        all_goals
          go_wp2_with fail
          refine (AI.out _).mono ?_
          rintro e w3 ⟨rfl, e3⟩
          have E3 : Hid (Ext w w3) := (HR.out.1.alloc _).trans e3
          have B3 : Hid (Blk w3 w.heap.size [.int .i64 arch, .int .i64 num, .slice ca cl cc] 28) := (HR.out.2.1.alloc _).ext e3
          have d2 := (HX.out.ext e3).cell 2 _ rfl
          have d3 := (HX.out.ext e3).cell 3 _ rfl
          clear e3 c0 c1 c2 c3
          go_wp2
          go_roundw
          case rel => exact ⟨rg, s + 1, j, num_eq hrg1.symm, num_eq (by omega), num_eq (by omega), hjn, by omega, E3.out, B3.out, HF.out⟩
          case measure => simp [intOf]; omega
    · have hov1 : ov = k := hov
      have hrg1 : rg = r := hrg
      have hk2 : 0 ≤ k ∧ k ≤ 399 := by omega
      obtain ⟨hk0, hk9⟩ := hk2
      have E3 : Hid (Ext w wr) := HR.out.1
      have B3 : Hid (Blk wr w.heap.size [.int .i64 arch, .int .i64 num, .slice ca cl cc] 28) := HR.out.2.1
      clear hok hov hrg
      go_wp2
      go_roundw
      case rel => exact ⟨rg, s + 1, j, num_eq hrg1.symm, num_eq (by omega), num_eq (by omega), hjn, by omega, E3.out.alloc _, B3.out.alloc _, HF.out⟩
      case measure => simp [intOf]; omega

end Go.Proofs.Ytaigoggoibdgbaa
