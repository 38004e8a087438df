/- What spec's l06Program draws: a program of right words. -/
import Derived.Test.YtaigoggoibdgbaaDrawIns
namespace Go.Proofs.Ytaigoggoibdgbaa
open Go.RowKit
set_option linter.unusedVariables false

theorem own_grown {w w' : World} {base e size p : Nat} {v : Value} {n : Nat} {xs : List Value} (h : w.ownsRow base e size v n xs) (hg : w.grownBy w' (some p)) (hp : p < base) : w'.ownsRow base e size v n xs := by
  refine ⟨h.1, ?_⟩
  rcases h.2 with hn | ⟨g, cap, cur, rfl, hg2, hh, rest⟩
  · exact .inl hn
  · exact .inr ⟨g, cap, cur, rfl, hg2, (hg.block g (Array.getElem?_eq_some_iff.1 hh).1 (ne_some (by omega))).trans hh, rest⟩

theorem own_ge {w : World} {base e size : Nat} {v : Value} {n : Nat} {xs : List Value} (h : w.ownsRow base e size v n xs) {x : Nat} (hx : v.ownBlock = some x) : base ≤ x := (h.lt x hx).1

theorem okW_jump {k y n l : Nat} (h : okW ((7 : Nat), (k : Int), (y : Int), (n : Int)) = true) : okW ((7 : Nat), ((k % l : Nat) : Int), (y : Int), (n : Int)) = true := by
  unfold okW at *
  rw [insB_true] at *
  unfold insP at *
  have := Nat.mod_le k l
  simp only at *
  omega

theorem okW_ask {o k y n l : Nat} (ho : inB (o : Int) 3 6 = true) (h : okW ((o : Int), (k : Int), (y : Int), (n : Int)) = true) : okW ((o : Int), (k : Int), ((y % l : Nat) : Int), ((n % l : Nat) : Int)) = true := by
  rw [inB_true] at ho
  unfold okW at *
  rw [insB_true] at *
  unfold insP at *
  have := Nat.mod_le y l
  have := Nat.mod_le n l
  simp only at *
  omega

theorem all_push {ws : List Wd} {p : Wd} (h : ws.all okW = true) (hp : okW p = true) : (ws ++ [p]).all okW = true := by simp [h, hp]

set_option maxRecDepth 100000 in
set_option maxHeartbeats 4000000 in
theorem prog_any (p : Nat) (a : Option Addr) (len cap : Nat) (w : World) (hC : Cur w p a len cap) :
    Calls Try.prog 31 #[.pointer (some ⟨p, 0, none⟩)] w fun e w' => ∃ v ws, e = .returned v ∧ Own4 w' w.heap.size v ws ∧ ws.all okW = true ∧ 2 ≤ ws.length ∧ ws.length ≤ 13 ∧ Cur w' p a len cap ∧ w.grownBy w' (some p) := by
  obtain ⟨i0, hi, hz0, hz1, hz2⟩ := info_parts Try.infoN
  have hp := hC.lt
  have HCO : Hid (∀ b off, a = some ⟨b, off, none⟩ → 0 < len → b < w.heap.size) := hC.code
  have HC : Hid (Cur w p a len cap) := hC
  clear hC
  go_enter Try.func31, Try.ntmps31
  go_wp2_with fail
  refine (below_any 12 p a len cap _ (HC.out.alloc _) (by omega)).mono ?_
  rintro e w1 ⟨x, hx, _, _, rfl, hc1, hg1⟩
  have hx12 := hx (by omega)
  have HO1 : Hid (Own4 w1 w.heap.size (.slice (some ⟨w.heap.size, 0, none⟩) 0 0) []) := own_grown (Own4.lit w _ (Nat.le_refl _)) hg1 hp
  have HG1 : Hid (w.grownBy w1 (some p)) := grown_trans (grown_alloc (grown_refl w _) _) hg1
  have HC1 : Hid (Cur w1 p a len cap) := hc1
  obtain ⟨n, hn⟩ : ∃ n, n = 1 + x := ⟨_, rfl⟩
  have en : (1 : Int) + (x : Int) = (n : Int) := by omega
  have hn1 : 1 ≤ n := by omega
  have hn12 : n ≤ 12 := by omega
  clear hg1 hc1 hx hx12 hn
  go_wp2
  go_loopw [3, 5] (fun v i wr => ∃ (k : Nat) (ws : List Wd), i = .int .i64 k ∧ k ≤ n ∧ Hid (ws.length = k ∧ ws.all okW = true ∧ Own4 wr w.heap.size v ws ∧ Cur wr p a len cap ∧ w.grownBy wr (some p))) (fun _ i _ => n - (intOf i).toNat)
  case atStart => exact ⟨0, [], rfl, by omega, rfl, rfl, HO1.out, HC1.out, HG1.out⟩
  case round =>
    obtain ⟨k, ws, rfl, hk, HR⟩ := hrel
    clear HO1 HG1 HC1 en
    obtain ⟨ao, cc, hv⟩ := own_slice HR.out.2.2.1
    rw [HR.out.1] at hv
    subst hv
    by_cases hlt : k < n
    · have bk : (k : Int) < (n : Int) := by omega
      obtain ⟨l, hl⟩ : ∃ l, l = n - k := ⟨_, rfl⟩
      have el : (n : Int) - (k : Int) = (l : Int) := by omega
      have hl1 : (1 : Int) ≤ (l : Int) := by omega
      have hl2 : (l : Int) ≤ 12 := by omega
      clear hl
      go_wp2_with fail
      refine (drawnIns_any p a len cap _ HR.out.2.2.2.1).mono ?_
      rintro e w2 ⟨o, kk, y, nn, hok, rfl, hc2, hg2⟩
      have HO2 : Hid (w2.ownsRow w.heap.size 34 4 (.slice ao k cc) k (flatI ws)) := by
        have h := own_grown HR.out.2.2.1 hg2 hp
        rw [HR.out.1] at h
        exact h
      have HC2 : Hid (Cur w2 p a len cap) := hc2
      have HG2 : Hid (w.grownBy w2 (some p)) := grown_trans HR.out.2.2.2.2 hg2
      have HOK : Hid (okW ((o : Int), (kk : Int), (y : Int), (nn : Int)) = true) := hok
      have hz3 := HG2.out.size
      have bo : (o : Int) ≤ 8 ∧ (kk : Int) ≤ 4294967295 ∧ (y : Int) ≤ 15 ∧ (nn : Int) ≤ 15 := by
        unfold okW at hok
        rw [insB_true] at hok
        unfold insP at hok
        simp only at hok
        omega
      obtain ⟨bo1, bo2, bo3, bo4⟩ := bo
      obtain ⟨k', e1, hk'⟩ : ∃ k' : Nat, (kk : Int) % (l : Int) = (k' : Int) ∧ Hid (k' = kk % l) := ⟨kk % l, by simp, rfl⟩
      obtain ⟨y', e2, hy'⟩ : ∃ y' : Nat, (y : Int) % (l : Int) = (y' : Int) ∧ Hid (y' = y % l) := ⟨y % l, by simp, rfl⟩
      obtain ⟨n', e3, hn'⟩ : ∃ n' : Nat, (nn : Int) % (l : Int) = (n' : Int) ∧ Hid (n' = nn % l) := ⟨nn % l, by simp, rfl⟩
      clear hc2 hg2 hok
      by_cases h7 : o = 7
      · subst h7
        have ha : inB ((7 : Nat) : Int) 3 6 = false := by decide
        have ha' : inB (7 : Int) 3 6 = false := ha
        go_wp2_with (first | (go_at_call 55; refine (ask_any _ _).mono ?_; rintro e w' ⟨rfl, rfl⟩) | (at_builtin; refine wpList_append_own _ rfl _ _ 24 rfl w.heap.size 34 i0 (.agg #[.int .i64 0, .int .i64 0, .int .i64 0, .int .i64 0]) 4 32 Try.underlying24 hi hz0 hz1 hz2 rfl (by decide) _ k _ rfl ((HO2.out.alloc _).alloc _) ⟨w2.heap.size + 1, 0, none⟩ 1 1 (ints4 7 (k' : Int) (y : Int) (nn : Int)) rfl rfl ?c1 ?c2 ?c3 ?c4 ?c5 ?_))
        case c1 =>
          intro j u hu
          have := (CellsAt.new' (w2.alloc (.cells (ints4 7 (k' : Int) (y : Int) (nn : Int)).toArray 34)) (ints4 7 (k' : Int) (y : Int) (nn : Int)) 34 (w2.heap.size + 1) (by simp)).2 j u hu
          rw [Addr.add_lit, Nat.zero_add]
          exact this
        case c2 => intro u hu; simp [ints4] at hu; rcases hu with rfl | rfl | rfl | rfl <;> rfl
        case c3 => unfold maxLen; omega
        case c4 => omega
        case c5 => simp; omega
        · intro v' w3 hown3 hgrow _
          have e4 : flatI ws ++ ints4 7 (k' : Int) (y : Int) (nn : Int) = flatI (ws ++ [((7 : Int), (k' : Int), (y : Int), (nn : Int))]) := flatI_push ws ((7 : Int), (k' : Int), (y : Int), (nn : Int))
          rw [e4] at hown3
          have hrow : ∀ x, (Value.slice ao k cc).ownBlock = some x → w.heap.size ≤ x := fun x hx => own_ge HO2.out hx
          have HR3 : Hid ((ws ++ [((7 : Int), (k' : Int), (y : Int), (nn : Int))]).length = k + 1 ∧ (ws ++ [((7 : Int), (k' : Int), (y : Int), (nn : Int))]).all okW = true ∧ Own4 w3 w.heap.size v' (ws ++ [((7 : Int), (k' : Int), (y : Int), (nn : Int))]) ∧ Cur w3 p a len cap ∧ w.grownBy w3 (some p)) := by
            refine ⟨by simp [HR.out.1], all_push HR.out.2.1 (by rw [hk'.out]; exact okW_jump HOK.out), ?_, ((HC2.out.alloc _).alloc _).grown hgrow (B := w.heap.size) hp HCO.out hrow, grown_own (grown_alloc (grown_alloc HG2.out _) _) hgrow hrow⟩
            unfold Own4
            rw [show (ws ++ [((7 : Int), (k' : Int), (y : Int), (nn : Int))]).length = k + 1 by simp [HR.out.1]]
            exact hown3
          clear hgrow hown3 e4 hrow HO2
          go_wp2
          go_roundw
          case rel => exact ⟨k + 1, _, by go_num, by omega, HR3.out⟩
          case measure => simp [intOf]; omega
      · have q7 : ((o : Int) == 7) = false := by simp; omega
        have HO7 : Hid (o ≠ 7) := h7
        clear h7
        cases ha : inB (o : Int) 3 6
        · go_wp2_with (first | (go_at_call 55; refine (ask_any _ _).mono ?_; rintro e w' ⟨rfl, rfl⟩) | (at_builtin; refine wpList_append_own _ rfl _ _ 24 rfl w.heap.size 34 i0 (.agg #[.int .i64 0, .int .i64 0, .int .i64 0, .int .i64 0]) 4 32 Try.underlying24 hi hz0 hz1 hz2 rfl (by decide) _ k _ rfl ((HO2.out.alloc _).alloc _) ⟨w2.heap.size + 1, 0, none⟩ 1 1 (ints4 (o : Int) (kk : Int) (y : Int) (nn : Int)) rfl rfl ?c1 ?c2 ?c3 ?c4 ?c5 ?_))
          case c1 =>
            intro j u hu
            have := (CellsAt.new' (w2.alloc (.cells (ints4 (o : Int) (kk : Int) (y : Int) (nn : Int)).toArray 34)) (ints4 (o : Int) (kk : Int) (y : Int) (nn : Int)) 34 (w2.heap.size + 1) (by simp)).2 j u hu
            rw [Addr.add_lit, Nat.zero_add]
            exact this
          case c2 => intro u hu; simp [ints4] at hu; rcases hu with rfl | rfl | rfl | rfl <;> rfl
          case c3 => unfold maxLen; omega
          case c4 => omega
          case c5 => simp; omega
          · intro v' w3 hown3 hgrow _
            have e4 : flatI ws ++ ints4 (o : Int) (kk : Int) (y : Int) (nn : Int) = flatI (ws ++ [((o : Int), (kk : Int), (y : Int), (nn : Int))]) := flatI_push ws ((o : Int), (kk : Int), (y : Int), (nn : Int))
            rw [e4] at hown3
            have hrow : ∀ x, (Value.slice ao k cc).ownBlock = some x → w.heap.size ≤ x := fun x hx => own_ge HO2.out hx
            have HR3 : Hid ((ws ++ [((o : Int), (kk : Int), (y : Int), (nn : Int))]).length = k + 1 ∧ (ws ++ [((o : Int), (kk : Int), (y : Int), (nn : Int))]).all okW = true ∧ Own4 w3 w.heap.size v' (ws ++ [((o : Int), (kk : Int), (y : Int), (nn : Int))]) ∧ Cur w3 p a len cap ∧ w.grownBy w3 (some p)) := by
              refine ⟨by simp [HR.out.1], all_push HR.out.2.1 (HOK.out), ?_, ((HC2.out.alloc _).alloc _).grown hgrow (B := w.heap.size) hp HCO.out hrow, grown_own (grown_alloc (grown_alloc HG2.out _) _) hgrow hrow⟩
              unfold Own4
              rw [show (ws ++ [((o : Int), (kk : Int), (y : Int), (nn : Int))]).length = k + 1 by simp [HR.out.1]]
              exact hown3
            clear hgrow hown3 e4 hrow HO2
            go_wp2
            go_roundw
            case rel => exact ⟨k + 1, _, by go_num, by omega, HR3.out⟩
            case measure => simp [intOf]; omega
        · go_wp2_with (first | (go_at_call 55; refine (ask_any _ _).mono ?_; rintro e w' ⟨rfl, rfl⟩) | (at_builtin; refine wpList_append_own _ rfl _ _ 24 rfl w.heap.size 34 i0 (.agg #[.int .i64 0, .int .i64 0, .int .i64 0, .int .i64 0]) 4 32 Try.underlying24 hi hz0 hz1 hz2 rfl (by decide) _ k _ rfl ((HO2.out.alloc _).alloc _) ⟨w2.heap.size + 1, 0, none⟩ 1 1 (ints4 (o : Int) (kk : Int) (y' : Int) (n' : Int)) rfl rfl ?c1 ?c2 ?c3 ?c4 ?c5 ?_))
          case c1 =>
            intro j u hu
            have := (CellsAt.new' (w2.alloc (.cells (ints4 (o : Int) (kk : Int) (y' : Int) (n' : Int)).toArray 34)) (ints4 (o : Int) (kk : Int) (y' : Int) (n' : Int)) 34 (w2.heap.size + 1) (by simp)).2 j u hu
            rw [Addr.add_lit, Nat.zero_add]
            exact this
          case c2 => intro u hu; simp [ints4] at hu; rcases hu with rfl | rfl | rfl | rfl <;> rfl
          case c3 => unfold maxLen; omega
          case c4 => omega
          case c5 => simp; omega
          · intro v' w3 hown3 hgrow _
            have e4 : flatI ws ++ ints4 (o : Int) (kk : Int) (y' : Int) (n' : Int) = flatI (ws ++ [((o : Int), (kk : Int), (y' : Int), (n' : Int))]) := flatI_push ws ((o : Int), (kk : Int), (y' : Int), (n' : Int))
            rw [e4] at hown3
            have hrow : ∀ x, (Value.slice ao k cc).ownBlock = some x → w.heap.size ≤ x := fun x hx => own_ge HO2.out hx
            have HR3 : Hid ((ws ++ [((o : Int), (kk : Int), (y' : Int), (n' : Int))]).length = k + 1 ∧ (ws ++ [((o : Int), (kk : Int), (y' : Int), (n' : Int))]).all okW = true ∧ Own4 w3 w.heap.size v' (ws ++ [((o : Int), (kk : Int), (y' : Int), (n' : Int))]) ∧ Cur w3 p a len cap ∧ w.grownBy w3 (some p)) := by
              refine ⟨by simp [HR.out.1], all_push HR.out.2.1 (by rw [hy'.out, hn'.out]; exact okW_ask ha HOK.out), ?_, ((HC2.out.alloc _).alloc _).grown hgrow (B := w.heap.size) hp HCO.out hrow, grown_own (grown_alloc (grown_alloc HG2.out _) _) hgrow hrow⟩
              unfold Own4
              rw [show (ws ++ [((o : Int), (kk : Int), (y' : Int), (n' : Int))]).length = k + 1 by simp [HR.out.1]]
              exact hown3
            clear hgrow hown3 e4 hrow HO2
            go_wp2
            go_roundw
            case rel => exact ⟨k + 1, _, by go_num, by omega, HR3.out⟩
            case measure => simp [intOf]; omega
    · have bk : ¬ ((k : Int) < (n : Int)) := by omega
      have hkn : k = n := by omega
      have HL : Hid (ws.length = k ∧ 1 ≤ k) := ⟨HR.out.1, by omega⟩
      have HO2 : Hid (wr.ownsRow w.heap.size 34 4 (.slice ao k cc) k (flatI ws)) := by
        have h := HR.out.2.2.1
        unfold Own4 at h
        rw [HR.out.1] at h
        exact h
      clear hkn hlt
      go_wp2_with fail
      refine (below_any 6 p a len cap _ HR.out.2.2.2.1 (by omega)).mono ?_
      rintro e w2 ⟨y2, hy2, _, _, rfl, hc2, hg2⟩
      have b2 := hy2 (by omega)
      have HO3 : Hid (w2.ownsRow w.heap.size 34 4 (.slice ao k cc) k (flatI ws)) := own_grown HO2.out hg2 hp
      have HC2 : Hid (Cur w2 p a len cap) := hc2
      have HG2 : Hid (w.grownBy w2 (some p)) := grown_trans HR.out.2.2.2.2 hg2
      clear hg2 hc2 HO2 hy2
      go_wp2_with fail
      refine (below_any 5 p a len cap _ HC2.out (by omega)).mono ?_
      rintro e w3 ⟨y3, hy3, _, _, rfl, hc3, hg3⟩
      have b3 := hy3 (by omega)
      have HO4 : Hid (w3.ownsRow w.heap.size 34 4 (.slice ao k cc) k (flatI ws)) := own_grown HO3.out hg3 hp
      have HC3 : Hid (Cur w3 p a len cap) := hc3
      have HG3 : Hid (w.grownBy w3 (some p)) := grown_trans HG2.out hg3
      have hz3 := HG3.out.size
      clear hg3 hc3 HO3 HG2 HC2 hy3
      obtain ⟨K, hK⟩ : ∃ K, K = 65536 * y2 + y3 := ⟨_, rfl⟩
      have HS : Hid (∀ w, Calls Try.prog 56 #[.int .i64 (y2 : Int), .int .i64 (y3 : Int)] w fun e w' => e = .returned (.int .i64 (K : Int)) ∧ w = w') := fun w => by rw [hK]; exact sRes_any y2 y3 w (by omega) (by omega)
      have hKb : K ≤ 4294967295 := by omega
      clear hK
      go_wp2_with (first | (go_at_call 56; refine (HS.out _).mono ?_; rintro e w' ⟨rfl, rfl⟩) | (at_builtin; refine wpList_append_own _ rfl _ _ 24 rfl w.heap.size 34 i0 (.agg #[.int .i64 0, .int .i64 0, .int .i64 0, .int .i64 0]) 4 32 Try.underlying24 hi hz0 hz1 hz2 rfl (by decide) _ k _ rfl (HO4.out.alloc _) ⟨w3.heap.size, 0, none⟩ 1 1 (ints4 8 (K : Int) 0 0) rfl rfl ?c1 ?c2 ?c3 ?c4 ?c5 ?_))
      case c1 =>
        intro j u hu
        have := (CellsAt.new w3 (ints4 8 (K : Int) 0 0) 34).2 j u hu
        rw [Addr.add_lit, Nat.zero_add]
        exact this
      case c2 => intro u hu; simp [ints4] at hu; rcases hu with rfl | rfl | rfl | rfl <;> rfl
      case c3 => unfold maxLen; omega
      case c4 => omega
      case c5 => simp; omega
      · intro v' w4 hown4 hgrow _
        have e4 : flatI ws ++ ints4 8 (K : Int) 0 0 = flatI (ws ++ [((8 : Int), (K : Int), (0 : Int), (0 : Int))]) := flatI_push ws ((8 : Int), (K : Int), (0 : Int), (0 : Int))
        rw [e4] at hown4
        have hrow : ∀ x, (Value.slice ao k cc).ownBlock = some x → w.heap.size ≤ x := fun x hx => own_ge HO4.out hx
        have HE : Hid (Own4 w4 w.heap.size v' (ws ++ [((8 : Int), (K : Int), (0 : Int), (0 : Int))]) ∧ (ws ++ [((8 : Int), (K : Int), (0 : Int), (0 : Int))]).all okW = true ∧ Cur w4 p a len cap ∧ w.grownBy w4 (some p)) := by
          refine ⟨?_, all_push HR.out.2.1 (okW_mk (by unfold insP; omega)), (HC3.out.alloc _).grown hgrow (B := w.heap.size) hp HCO.out hrow, grown_own (grown_alloc HG3.out _) hgrow hrow⟩
          unfold Own4
          rw [show (ws ++ [((8 : Int), (K : Int), (0 : Int), (0 : Int))]).length = k + 1 by simp [HR.out.1]]
          exact hown4
        clear hgrow hown4 e4 hrow HO4
        go_wp2
        go_ret
        exact ⟨v', ws ++ [((8 : Int), (K : Int), (0 : Int), (0 : Int))], rfl, HE.out.1, HE.out.2.1, by have := HL.out; simp; omega, by have := HL.out; simp; omega, HE.out.2.2.1, HE.out.2.2.2⟩

end Go.Proofs.Ytaigoggoibdgbaa
