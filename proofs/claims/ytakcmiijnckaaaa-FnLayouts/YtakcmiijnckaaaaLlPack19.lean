/- What the draws of halves, wide numbers and calls answer: right ones. -/
import Derived.Test.YtakcmiijnckaaaaLlPack17
import Derived.Test.YtakcmiijnckaaaaLlPack14
import Derived.Handy
import Derived.Deep.AppendLies
namespace Go.Proofs.Ytakcmiijnckaaaa
open Go.RowKit
set_option linter.unusedVariables false

theorem wideB_mk {x y : Int} (hx : halfB x = true) (hy : halfB y = true) : wideB (x, y) = true := by simp [wideB, hx, hy]

theorem half4_any (p : Nat) (a : Option Addr) (len cap : Nat) (w : World) (hC : Cur w p a len cap) :
    Calls Try.prog 65 #[.pointer (some ⟨p, 0, none⟩)] w fun e w' => ∃ z : Int, halfB z = true ∧ e = .returned (.int .i64 z) ∧ Cur w' p a len cap ∧ w.grownBy w' (some p) := by
  have HC : Hid (Cur w p a len cap) := hC
  clear hC
  go_enter Try.func65, Try.ntmps65
  go_wp2_with fail
  refine (below_any 12 p a len cap _ HC.out (by omega)).mono ?_
  rintro e w1 ⟨x, hx, _, _, rfl, hc1, hg1⟩
  have hx12 := hx (by omega)
  have HP : Hid (p < w1.heap.size) := hc1.lt
  have HC1 : Hid (Cur w1 p a len cap) := hc1
  clear hc1 hx
  go_wp2_with fail
  refine (pick_list [0, 1, 2, 3, 5, 7, 255, 4294967295, 2147483648, (x : Int)] _ p a len cap _ (HC1.out.alloc _) (Blk.new _ _ _) (by have := HP.out; omega) (by simp) (by simp)).mono ?_
  rintro e w2 ⟨z, hz, rfl, hc2, hg2⟩
  have hh : halfB z = true := by
    rw [halfB_true]
    simp only [List.mem_cons, List.not_mem_nil, or_false] at hz
    omega
  have HG : Hid (w.grownBy w2 (some p)) := grown_trans (grown_alloc hg1 _) hg2
  clear hg1 hg2 hz
  go_wp2
  go_ret
  exact ⟨z, hh, rfl, hc2, HG.out⟩

set_option maxRecDepth 100000 in
set_option maxHeartbeats 1000000 in
theorem wide_any (p : Nat) (a : Option Addr) (len cap : Nat) (w : World) (hC : Cur w p a len cap) :
    Calls Try.prog 69 #[.pointer (some ⟨p, 0, none⟩)] w fun e w' => ∃ x y : Int, wideB (x, y) = true ∧ e = .returned (.agg #[.int .i64 x, .int .i64 y]) ∧ Cur w' p a len cap ∧ w.grownBy w' (some p) := by
  have hp := hC.lt
  have HC : Hid (Cur w p a len cap) := hC
  clear hC
  go_enter Try.func69, Try.ntmps69
  go_wp2_with fail
  refine (half4_any p a len cap _ (HC.out.alloc _)).mono ?_
  rintro e w1 ⟨y, hy, rfl, hc1, hg1⟩
  have b1 := (Blk.new w [.int .i64 0, .int .i64 0] 70).grown hg1 (by simp; omega)
  have HG1 : Hid (w.grownBy w1 (some p)) := grown_trans (grown_alloc (grown_refl w _) _) hg1
  have HC1 : Hid (Cur w1 p a len cap) := hc1
  have hs1 := b1.lt
  clear hg1 hc1
  go_wp2_with fail
  refine (once_any 3 p a len cap _ (HC1.out.alloc _) (by omega)).mono ?_
  rintro e w2 ⟨b, rfl, hc2, hg2⟩
  have b2 := (b1.alloc (.cells #[.int .i64 0, .int .i64 y] 70)).grown hg2 (by simp; omega)
  have d2 := (Blk.new w1 [.int .i64 0, .int .i64 y] 70).grown hg2 (by have := HC1.out.lt; simp; omega)
  have HG2 : Hid (w.grownBy w2 (some p)) := grown_trans (grown_alloc HG1.out _) hg2
  have hpw : p ≠ w1.heap.size := by have := HC1.out.lt; omega
  clear hg2 HG1 b1
  cases b
  · obtain ⟨q1, q2, q3, q4⟩ := (⟨b2.cell 0 _ rfl, b2.cell 1 _ rfl, d2.cell 0 _ rfl, d2.cell 1 _ rfl⟩ : _ ∧ _ ∧ _ ∧ _)
    have f1 := b2.free
    have hs2 := b2.lt
    clear b2 d2
    go_wp2
    refine bodyPost_ret (v := .agg #[.int .i64 0, .int .i64 y]) (by simp [results, Try.results69, go_sem, *]) rfl ⟨0, y, wideB_mk (by decide) hy, rfl, ?_, grown_store (grown_store HG2.out (by omega) _ _) (by omega) _ _⟩
    exact (hc2.store HC.out (by omega) _ _).store HC.out (by omega) _ _
  · have HC2 : Hid (Cur w2 p a len cap) := hc2
    clear hc2
    go_wp2_with fail
    refine (half4_any p a len cap _ HC2.out).mono ?_
    rintro e w3 ⟨x, hx, rfl, hc3, hg3⟩
    have b3 := b2.grown hg3 (by simp; omega)
    have d3 := d2.grown hg3 (by simp; omega)
    have HG3 : Hid (w.grownBy w3 (some p)) := grown_trans HG2.out hg3
    obtain ⟨q1, q2, q3, q4⟩ := (⟨b3.cell 0 _ rfl, b3.cell 1 _ rfl, d3.cell 0 _ rfl, d3.cell 1 _ rfl⟩ : _ ∧ _ ∧ _ ∧ _)
    have f1 := b3.free
    have f2 := d3.free
    have hs2 := b3.lt
    have hs3 := d3.lt
    clear b2 d2 b3 d3 hg3 HG2
    go_wp2
    refine bodyPost_ret (v := .agg #[.int .i64 x, .int .i64 y]) (by simp [results, Try.results69, go_sem, *]) rfl ⟨x, y, wideB_mk hx hy, rfl, ?_, ?_⟩
    · exact ((hc3.store HC.out (by omega) _ _).store HC.out (by omega) _ _).store HC.out (by omega) _ _
    · exact grown_store (grown_store (grown_store HG3.out (by omega) _ _) (by omega) _ _) (by omega) _ _

/-- The cells of wide numbers in a row. -/
def flatW (ws : List (Int × Int)) : List Value := ws.flatMap fun p => [.int .i64 p.1, .int .i64 p.2]

theorem flatW_push (ws : List (Int × Int)) (x y : Int) : flatW ws ++ [.int .i64 x, .int .i64 y] = flatW (ws ++ [(x, y)]) := by simp [flatW]

theorem flatW_at : ∀ (ws : List (Int × Int)) (j : Nat), j < ws.length → (flatW ws)[j * 2]? = some (.int .i64 (ws.getD j (0, 0)).1) ∧ (flatW ws)[j * 2 + 1]? = some (.int .i64 (ws.getD j (0, 0)).2)
  | [], j, h => by simp at h
  | p :: ws, 0, _ => by simp [flatW]
  | p :: ws, j + 1, h => by
    have := flatW_at ws j (by simpa using h)
    have e1 : (j + 1) * 2 = j * 2 + 1 + 1 := by omega
    have e2 : (j + 1) * 2 + 1 = j * 2 + 1 + 1 + 1 := by omega
    rw [e1]
    simpa [flatW] using this

theorem own_wides {w : World} {base n : Nat} {v : Value} {ws : List (Int × Int)} (h : w.ownsRow base 70 2 v n (flatW ws)) (hn : ws.length = n) : ∃ a cap, v = .slice a ws.length cap ∧ ws.length ≤ cap ∧ Wides w a ws := by
  rcases h.2 with ⟨rfl, h0⟩ | ⟨g, cap, cur, rfl, hg, hh, hnc, hcp, hcs, htake⟩
  · subst h0
    exact ⟨none, 0, by rw [hn], by omega, fun hp => by omega⟩
  · refine ⟨some ⟨g, 0, none⟩, cap, by rw [hn], by omega, fun hp => ⟨g, 0, rfl, (Array.getElem?_eq_some_iff.1 hh).1, fun j hj => ?_⟩⟩
    obtain ⟨e1, e2⟩ := flatW_at ws j hj
    rw [← htake, List.getElem?_take, if_pos (by omega)] at e1 e2
    rw [Nat.zero_add, cell_of_row w g _ cur 70 _ hh, cell_of_row w g _ cur 70 _ hh]
    exact ⟨by simpa using e1, by simpa using e2⟩

theorem own_grown4 {w w' : World} {base e size p : Nat} {v : Value} {n : Nat} {xs : List Value} (h : w.ownsRow base e size v n xs) (hg : w.grownBy w' (some p)) (hp : p < base) : w'.ownsRow base e size v n xs := by
  refine ⟨h.1, ?_⟩
  rcases h.2 with hn | ⟨g, cap, cur, rfl, hgb, hh, rest⟩
  · exact .inl hn
  · exact .inr ⟨g, cap, cur, rfl, hgb, (hg.block g (Array.getElem?_eq_some_iff.1 hh).1 (by simp; omega)).trans hh, rest⟩

theorem own_ne {w : World} {base e size : Nat} {v : Value} {n : Nat} {xs : List Value} (h : w.ownsRow base e size v n xs) {k : Nat} (hk : k < base) : some k ≠ v.ownBlock := by
  rcases h.2 with ⟨rfl, _⟩ | ⟨g, cap, cur, rfl, hgb, _⟩
  · simp [Value.ownBlock]
  · simp [Value.ownBlock]; omega

theorem own_ge4 {w : World} {base e size : Nat} {v : Value} {n : Nat} {xs : List Value} (h : w.ownsRow base e size v n xs) {x : Nat} (hx : v.ownBlock = some x) : base ≤ x := by
  rcases h.2 with ⟨rfl, _⟩ | ⟨g, cap, cur, rfl, hgb, _⟩
  · simp [Value.ownBlock] at hx
  · simp [Value.ownBlock] at hx; omega

theorem own_free {w : World} {base e size : Nat} {v : Value} {n : Nat} {xs : List Value} (h : w.ownsRow base e size v n xs) {x : Nat} (hx : v.ownBlock = some x) (i : Nat) : w.frozen? ⟨x, i, none⟩ = false := by
  rcases h.2 with ⟨rfl, _⟩ | ⟨g, cap, cur, rfl, hgb, hh, _⟩
  · simp [Value.ownBlock] at hx
  · simp [Value.ownBlock] at hx; subst hx; exact free_in hh

theorem Wides.far {w : World} {a : Option Addr} {ws : List (Int × Int)} (h : Wides w a ws) {k : Nat} (hk : ∀ b off, a = some ⟨b, off, none⟩ → k ≠ b) (i : Nat) (v : Value) : Wides (w.setCell ⟨k, i, none⟩ v) a ws := fun hp => by
  obtain ⟨b, off, ha, hb, hc⟩ := h hp
  subst ha
  exact (h.set i (hk b off rfl) v) hp

/-- A call whose wide numbers lie in memory from block B on. -/
def RepNew (B : Nat) (arch num : Int) (ws : List (Int × Int)) (v : Value) (w : World) : Prop := ∃ a cap, v = .agg #[.int .i64 arch, .int .i64 num, .slice a ws.length cap] ∧ ws.length ≤ cap ∧ Wides w a ws ∧ (∀ b off, a = some ⟨b, off, none⟩ → B ≤ b) ∧ ∀ b off, a = some ⟨b, off, none⟩ → ∀ i, w.frozen? ⟨b, i, none⟩ = false

theorem RepNew.rep {B : Nat} {arch num : Int} {ws : List (Int × Int)} {v : Value} {w : World} (h : RepNew B arch num ws v w) : RepCall arch num ws v w := by
  obtain ⟨a, cap, rfl, _, hw, _, _⟩ := h
  exact ⟨a, cap, rfl, hw⟩

set_option maxRecDepth 100000 in
set_option maxHeartbeats 2000000 in
theorem call_any (p : Nat) (a : Option Addr) (len cap : Nat) (w : World) (hC : Cur w p a len cap) :
    Calls Try.prog 37 #[.pointer (some ⟨p, 0, none⟩)] w fun e w' => ∃ (arch num : Int) (ws : List (Int × Int)) (v : Value), callB arch num ws = true ∧ e = .returned v ∧ RepNew w.heap.size arch num ws v w' ∧ Cur w' p a len cap ∧ w.grownBy w' (some p) := by
  obtain ⟨i0, hi, hz0, hz1, hz2⟩ := info_parts Try.infoW
  have hp := hC.lt
  have HC : Hid (Cur w p a len cap) := hC
  clear hC
  go_enter Try.func37, Try.ntmps37
  go_wp2_with fail
  refine (pick_list [62, 62, 62, 62, 3] _ p a len cap _ ((HC.out.alloc _).alloc _) (by have := Blk.new (w.alloc (.cells #[.int .i64 0, .int .i64 0, .slice none 0 0] 28)) [.int .i64 62, .int .i64 62, .int .i64 62, .int .i64 62, .int .i64 3] 3; simpa using this) (by omega) (by simp) (by simp)).mono ?_
  rintro e w1 ⟨arch, ha, rfl, hc1, hg1⟩
  have harch : halfB arch = true := by
    rw [halfB_true]
    simp only [List.mem_cons, List.not_mem_nil, or_false] at ha
    omega
  have r1 := ((Blk.new w [.int .i64 0, .int .i64 0, .slice none 0 0] 28).alloc (.cells #[.int .i64 62, .int .i64 62, .int .i64 62, .int .i64 62, .int .i64 3] 3)).grown hg1 (by simp; omega)
  have g1 : w.grownBy w1 (some p) := grown_trans (grown_alloc (grown_alloc (grown_refl w _) _) _) hg1
  have HC1 : Hid (Cur w1 p a len cap) := hc1
  have hp1 := hc1.lt
  clear hg1 hc1 ha
  go_wp2_with fail
  refine (pick_list [0, 1, 2, 3, 4, 6, 9, 11, 4294967295, 77] _ p a len cap _ (HC1.out.alloc _) (Blk.new _ _ _) (by omega) (by simp) (by simp)).mono ?_
  rintro e w2 ⟨num, hn, rfl, hc2, hg2⟩
  have hnum : halfB num = true := by
    rw [halfB_true]
    simp only [List.mem_cons, List.not_mem_nil, or_false] at hn
    omega
  have r2 := (r1.alloc (.cells #[.int .i64 0, .int .i64 1, .int .i64 2, .int .i64 3, .int .i64 4, .int .i64 6, .int .i64 9, .int .i64 11, .int .i64 4294967295, .int .i64 77] 3)).grown hg2 (by simp; omega)
  have g2 : w.grownBy w2 (some p) := grown_trans (grown_alloc g1 _) hg2
  have hp2 := hc2.lt
  have HS : Hid (Cur w2 p a len cap ∧ w.grownBy w2 (some p) ∧ Blk w2 w.heap.size [.int .i64 0, .int .i64 0, .slice none 0 0] 28) := ⟨hc2, g2, r2⟩
  have hs2 := r2.lt
  clear hg2 hc2 hn r1 g1 r2 g2 HC1
  go_wp2_with fail
  obtain ⟨X, hX⟩ : ∃ X, X = w2.heap.size := ⟨_, rfl⟩
  rw [← hX]
  have HX : Hid (X = w2.heap.size) := hX
  rw [← hX] at hp2 hs2
  clear hX
  go_loopw [4] (fun i wr => ∃ (k : Nat) (ws : List (Int × Int)) (v : Value), i = .int .i64 k ∧ k ≤ 3 ∧ ws.length = k ∧ ws.all wideB = true ∧ Blk wr X [.int .i64 arch, .int .i64 num, v] 28 ∧ Blk wr w.heap.size [.int .i64 0, .int .i64 0, .slice none 0 0] 28 ∧ wr.ownsRow (X + 1) 70 2 v k (flatW ws) ∧ Cur wr p a len cap ∧ w.grownBy wr (some p)) (fun i _ => 3 - (intOf i).toNat)
  case atStart =>
    obtain ⟨h1, h2, h3⟩ := HS.out
    exact ⟨0, [], _, rfl, by omega, rfl, rfl, by rw [HX.out]; exact Blk.new _ _ _, h3.alloc _, ⟨rfl, .inl ⟨rfl, rfl⟩⟩, h1.alloc _, grown_alloc h2 _⟩
  case round =>
    obtain ⟨k, ws, v, rfl, hk, hlen, hall, hx, hr, hown, hc, hg⟩ := hrel
    have hXp : X ≠ p := by omega
    have hXw : w.heap.size < X := by omega
    have hXr := hx.lt
    by_cases hlt : k < 3
    · have bk : (k : Int) < 3 := by omega
      have HI : Hid (ws.length = k ∧ ws.all wideB = true ∧ Blk wr X [.int .i64 arch, .int .i64 num, v] 28 ∧ Blk wr w.heap.size [.int .i64 0, .int .i64 0, .slice none 0 0] 28 ∧ wr.ownsRow (X + 1) 70 2 v k (flatW ws) ∧ Cur wr p a len cap ∧ w.grownBy wr (some p)) := ⟨hlen, hall, hx, hr, hown, hc, hg⟩
      clear hlen hall hx hr hown hc hg HS
      go_wp2_with fail
      refine (wide_any p a len cap _ HI.out.2.2.2.2.2.1).mono ?_
      rintro e w4 ⟨x, y, hxy, rfl, hc4, hg4⟩
      have HJ : Hid (ws.length = k ∧ ws.all wideB = true ∧ Blk w4 X [.int .i64 arch, .int .i64 num, v] 28 ∧ Blk w4 w.heap.size [.int .i64 0, .int .i64 0, .slice none 0 0] 28 ∧ w4.ownsRow (X + 1) 70 2 v k (flatW ws) ∧ Cur w4 p a len cap ∧ w.grownBy w4 (some p)) := by
        obtain ⟨h1, h2, h3, h4, h5, h6, h7⟩ := HI.out
        exact ⟨h1, h2, h3.grown hg4 (by simp; omega), h4.grown hg4 (by simp; omega), own_grown4 h5 hg4 (by omega), hc4, grown_trans h7 hg4⟩
      have q3 := HJ.out.2.2.1.cell 2 _ rfl
      have fX := HJ.out.2.2.1.free
      have hX4 := HJ.out.2.2.1.lt
      clear HI hc4 hg4
      go_wp2_with (at_builtin; refine wpList_append_lies _ rfl _ _ 26 rfl (X + 1) 70 i0 (.agg #[.int .i64 0, .int .i64 0]) 2 16 Try.underlying26 hi hz0 hz1 hz2 rfl (by decide) _ _ _ rfl ((HJ.out.2.2.2.2.1.alloc _).alloc _) ⟨w4.heap.size + 1, 0, none⟩ 1 1 [.int .i64 x, .int .i64 y] rfl rfl ?c1 ?c2 (by omega) ?c3 ?c4 ?c5 (w4.heap.size + 1 + 1) (by simp) ?_)
      case c1 => exact World.news_of_block (B := w4.heap.size + 1) (cs := #[.int .i64 x, .int .i64 y]) (t := 70) (fr := (0, 0)) (by have := Blk.new (w4.alloc (.cells #[.int .i64 x, .int .i64 y] 70)) [.int .i64 x, .int .i64 y] 70; simpa [Blk] using this)
      case c2 => simp [Value.oneCell']
      case c3 => unfold maxLen; omega
      case c4 => omega
      case c5 => simp; omega
      intro g cap' w5 hown5 hgrow5 hat hlt5
      have HK : Hid ((ws ++ [(x, y)]).length = k + 1 ∧ (ws ++ [(x, y)]).all wideB = true ∧ Blk w5 X [.int .i64 arch, .int .i64 num, v] 28 ∧ Blk w5 w.heap.size [.int .i64 0, .int .i64 0, .slice none 0 0] 28 ∧ w5.ownsRow (X + 1) 70 2 (.slice (some ⟨g, 0, none⟩) (k + 1) cap') (k + 1) (flatW (ws ++ [(x, y)])) ∧ Cur w5 p a len cap ∧ w.grownBy w5 (some p)) := by
        obtain ⟨h1, h2, h3, h4, h5, h6, h7⟩ := HJ.out
        refine ⟨by simp [h1], by simp [h2, hxy], ((h3.alloc _).alloc _).grown hgrow5 (own_ne h5 (by omega)), ((h4.alloc _).alloc _).grown hgrow5 (own_ne h5 (by omega)), by rw [← flatW_push]; exact hown5, ((h6.alloc _).alloc _).kept hgrow5 (Ne.symm (own_ne h5 (by omega))) (fun b off e hl => Ne.symm (own_ne h5 (by have := HC.out.code b off e hl; omega))), grown_own (grown_alloc (grown_alloc h7 _) _) hgrow5 (fun x hx => by have := own_ge4 h5 hx; omega)⟩
      have fX5 := HK.out.2.2.1.free
      have cX5 := HK.out.2.2.1.cell 2 _ rfl
      clear hown5 hgrow5 hat HJ q3 fX
      go_wp2
      go_roundw
      case rel =>
        obtain ⟨h1, h2, h3, h4, h5, h6, h7⟩ := HK.out
        exact ⟨k + 1, ws ++ [(x, y)], _, by go_num, by omega, h1, h2, h3.set 2 _, h4.other (by omega) _ _, ownsRow_setCell_below h5 (by show X < X + 1; omega) _, h6.store HC.out (by omega) _ _, grown_store h7 (by omega) _ _⟩
      case measure => simp [intOf]; omega
    · have hk3 : k = 3 := by omega
      have bk : ¬ ((k : Int) < 3) := by omega
      have HI : Hid (callB arch num ws = true ∧ Cur wr p a len cap ∧ w.grownBy wr (some p)) := ⟨by rw [callB_all harch hnum (by omega)]; exact hall, hc, hg⟩
      obtain ⟨av, cv, rfl, hcv, hwv⟩ := own_wides hown hlen
      have HWV : Hid (Wides wr av ws ∧ (∀ b off, av = some ⟨b, off, none⟩ → X < b) ∧ ∀ b off, av = some ⟨b, off, none⟩ → ∀ i, wr.frozen? ⟨b, i, none⟩ = false) := ⟨hwv, fun b off e => by
        have := own_ge4 hown (x := b) (by rw [e]; rfl)
        omega, fun b off e => own_free hown (by rw [e]; rfl)⟩
      obtain ⟨q1, q2, q3, q4, q5, q6⟩ := (⟨hx.cell 0 _ rfl, hx.cell 1 _ rfl, hx.cell 2 _ rfl, hr.cell 0 _ rfl, hr.cell 1 _ rfl, hr.cell 2 _ rfl⟩ : _ ∧ _ ∧ _ ∧ _ ∧ _ ∧ _)
      have fR := hr.free
      clear hwv hown hx hr hc hg hall HS
      go_wp2
      refine bodyPost_ret (v := .agg #[.int .i64 arch, .int .i64 num, .slice av ws.length cv]) (by simp [results, Try.results37, go_sem, *]) rfl ?_
      refine ⟨arch, num, ws, HI.out.1, .agg #[.int .i64 arch, .int .i64 num, .slice av ws.length cv], rfl, ⟨av, cv, rfl, hcv, ?_, fun b off e => by have := HWV.out.2.1 b off e; omega, fun b off e i => by rw [World.frozen?_setCell, World.frozen?_setCell, World.frozen?_setCell]; exact HWV.out.2.2 b off e i⟩, ?_, ?_⟩
      · exact ((HWV.out.1.far (fun b off e => by have := HWV.out.2.1 b off e; omega) _ _).far (fun b off e => by have := HWV.out.2.1 b off e; omega) _ _).far (fun b off e => by have := HWV.out.2.1 b off e; omega) _ _
      · exact ((HI.out.2.1.store HC.out (by omega) _ _).store HC.out (by omega) _ _).store HC.out (by omega) _ _
      · exact grown_store (grown_store (grown_store HI.out.2.2 (by omega) _ _) (by omega) _ _) (by omega) _ _

set_option maxHeartbeats 1000000 in
theorem drawCall_any (a : Option Addr) (len cap : Nat) (w : World) (hC : Came w a len) :
    Calls Try.prog 10 #[.slice a len cap] w fun e w' => ∃ (arch num : Int) (ws : List (Int × Int)) (v : Value), callB arch num ws = true ∧ e = .returned v ∧ RepNew w.heap.size arch num ws v w' ∧ Ext w w' := by
  have HC : Hid (Came w a len) := hC
  clear hC
  go_enter Try.func10, Try.ntmps10
  go_wp2_with fail
  refine (new_any a len cap _ (HC.out.below (Ext.one _ _))).mono ?_
  rintro e w1 ⟨rfl, hc1, hb1⟩
  have r1 := (Blk.new w [.int .i64 0, .int .i64 0, .slice none 0 0] 28).ext hb1
  have HE : Hid (Ext w w1) := (Ext.one _ _).trans hb1
  have hs1 : w.heap.size + 1 < w1.heap.size := by have := hc1.lt; simpa using this
  have HC1 : Hid (Cur w1 (w.heap.size + 1) a len cap) := by simpa [Hid] using hc1
  clear hc1 hb1
  go_wp2_with fail
  refine (call_any (w.heap.size + 1) a len cap _ HC1.out).mono ?_
  rintro e w2 ⟨arch, num, ws, v, hcb, rfl, ⟨av, cv, rfl, hcv, hw, hf, hz⟩, hc2, hg2⟩
  have r2 := r1.grown hg2 (ne_some (by omega))
  have HB : Hid (Below w.heap.size w w2) := HE.out.grown hg2 HE.out.size (fun k hk => by have := Option.some.inj hk; omega)
  have HWV : Hid (Wides w2 av ws ∧ (∀ b off, av = some ⟨b, off, none⟩ → w1.heap.size ≤ b) ∧ ∀ b off, av = some ⟨b, off, none⟩ → ∀ i, w2.frozen? ⟨b, i, none⟩ = false) := ⟨hw, hf, hz⟩
  obtain ⟨q4, q5, q6⟩ := (⟨r2.cell 0 _ rfl, r2.cell 1 _ rfl, r2.cell 2 _ rfl⟩ : _ ∧ _ ∧ _)
  have fR := r2.free
  have hlt := r2.lt
  clear hw hf hz hc2 hg2 r2 r1 HE
  go_wp2
  refine bodyPost_ret (v := .agg #[.int .i64 arch, .int .i64 num, .slice av ws.length cv]) (by simp [results, Try.results10, go_sem, *]) rfl ?_
  refine ⟨arch, num, ws, .agg #[.int .i64 arch, .int .i64 num, .slice av ws.length cv], hcb, rfl, ⟨av, cv, rfl, hcv, ?_, fun b off e => by have := HWV.out.2.1 b off e; omega, fun b off e i => by rw [World.frozen?_setCell, World.frozen?_setCell, World.frozen?_setCell]; exact HWV.out.2.2 b off e i⟩, ?_⟩
  · exact ((HWV.out.1.far (fun b off e => by have := HWV.out.2.1 b off e; omega) _ _).far (fun b off e => by have := HWV.out.2.1 b off e; omega) _ _).far (fun b off e => by have := HWV.out.2.1 b off e; omega) _ _
  · have hw := HB.out
    go_grown

end Go.Proofs.Ytakcmiijnckaaaa
