/- What the draws of any call, of a place and of a half answer. -/
import Derived.Test.YthflflhcbnianaaDoorCrPack21
import Derived.Test.YthflflhcbnianaaDoorCrPack18
import Derived.Handy
import Derived.Deep.AppendLies
import Derived.Test.YthflflhcbnianaaDoorCrPack13
import Derived.Test.YthflflhcbnianaaDoorCrPack3
/- What the draws of halves, wide numbers and calls answer: right ones. -/
namespace Go.Proofs.YthflflhcbnianaaDoor
open Go.RowKit
set_option linter.unusedVariables false

theorem wideB_mk {x y : Int} (hx : halfB x = true) (hy : halfB y = true) : wideB (x, y) = true := by simp [wideB, hx, hy]

theorem half4_any (p : Nat) (a : Option Addr) (len cap : Nat) (w : World) (hC : Cur w p a len cap) :
    Calls Tryd.prog 91 #[.pointer (some ⟨p, 0, none⟩)] w fun e w' => ∃ z : Int, halfB z = true ∧ e = .returned (.int .i64 z) ∧ Cur w' p a len cap ∧ w.grownBy w' (some p) := by
  have HC : Hid (Cur w p a len cap) := hC
  clear hC
  go_enter Tryd.func91, Tryd.ntmps91
  go_wp2_with fail
  refine (below_any 12 p a len cap _ HC.out (by omega)).mono ?_
  rintro e w1 ⟨x, hx, _, _, rfl, hc1, hg1⟩
  have hx12 := hx (by omega)
  have HP : Hid (p < w1.heap.size) := hc1.lt
  have HC1 : Hid (Cur w1 p a len cap) := hc1
  clear hc1 hx
  go_wp2_with fail
  refine (pick_list [0, 1, 2, 3, 5, 7, 255, 4294967295, 2147483648, (x : Int)] _ p a len cap _ (HC1.out.alloc _) (Blk.new _ _ _) (by have := HP.out; omega) (by simp) (by simp)).mono ?_
  rintro e w2 ⟨z, hz, rfl, hc2, hg2⟩
  have hh : halfB z = true := by
    rw [halfB_true]
    simp only [List.mem_cons, List.not_mem_nil, or_false] at hz
    omega
  have HG : Hid (w.grownBy w2 (some p)) := grown_trans (grown_alloc hg1 _) hg2
  clear hg1 hg2 hz
  go_wp2
  go_ret
  exact ⟨z, hh, rfl, hc2, HG.out⟩

set_option maxRecDepth 100000 in
set_option maxHeartbeats 1000000 in
theorem wide_any (p : Nat) (a : Option Addr) (len cap : Nat) (w : World) (hC : Cur w p a len cap) :
    Calls Tryd.prog 66 #[.pointer (some ⟨p, 0, none⟩)] w fun e w' => ∃ x y : Int, wideB (x, y) = true ∧ e = .returned (.agg #[.int .i64 x, .int .i64 y]) ∧ Cur w' p a len cap ∧ w.grownBy w' (some p) := by
  have hp := hC.lt
  have HC : Hid (Cur w p a len cap) := hC
  clear hC
  go_enter Tryd.func66, Tryd.ntmps66
  go_wp2_with fail
  refine (half4_any p a len cap _ (HC.out.alloc _)).mono ?_
  rintro e w1 ⟨y, hy, rfl, hc1, hg1⟩
  have b1 := (Blk.new w [.int .i64 0, .int .i64 0] 25).grown hg1 (by simp; omega)
  have HG1 : Hid (w.grownBy w1 (some p)) := grown_trans (grown_alloc (grown_refl w _) _) hg1
  have HC1 : Hid (Cur w1 p a len cap) := hc1
  have hs1 := b1.lt
  clear hg1 hc1
  go_wp2_with fail
  refine (once_any 3 p a len cap _ (HC1.out.alloc _) (by omega)).mono ?_
  rintro e w2 ⟨b, rfl, hc2, hg2⟩
  have b2 := (b1.alloc (.cells #[.int .i64 0, .int .i64 y] 25)).grown hg2 (by simp; omega)
  have d2 := (Blk.new w1 [.int .i64 0, .int .i64 y] 25).grown hg2 (by have := HC1.out.lt; simp; omega)
  have HG2 : Hid (w.grownBy w2 (some p)) := grown_trans (grown_alloc HG1.out _) hg2
  have hpw : p ≠ w1.heap.size := by have := HC1.out.lt; omega
  clear hg2 HG1 b1
  cases b
  · obtain ⟨q1, q2, q3, q4⟩ := (⟨b2.cell 0 _ rfl, b2.cell 1 _ rfl, d2.cell 0 _ rfl, d2.cell 1 _ rfl⟩ : _ ∧ _ ∧ _ ∧ _)
    have f1 := b2.free
    have hs2 := b2.lt
    clear b2 d2
    go_wp2
    refine bodyPost_ret (v := .agg #[.int .i64 0, .int .i64 y]) (by simp [results, Tryd.results66, go_sem, *]) rfl ⟨0, y, wideB_mk (by decide) hy, rfl, ?_, grown_store (grown_store HG2.out (by omega) _ _) (by omega) _ _⟩
    exact (hc2.store HC.out (by omega) _ _).store HC.out (by omega) _ _
  · have HC2 : Hid (Cur w2 p a len cap) := hc2
    clear hc2
    go_wp2_with fail
    refine (half4_any p a len cap _ HC2.out).mono ?_
    rintro e w3 ⟨x, hx, rfl, hc3, hg3⟩
    have b3 := b2.grown hg3 (by simp; omega)
    have d3 := d2.grown hg3 (by simp; omega)
    have HG3 : Hid (w.grownBy w3 (some p)) := grown_trans HG2.out hg3
    obtain ⟨q1, q2, q3, q4⟩ := (⟨b3.cell 0 _ rfl, b3.cell 1 _ rfl, d3.cell 0 _ rfl, d3.cell 1 _ rfl⟩ : _ ∧ _ ∧ _ ∧ _)
    have f1 := b3.free
    have f2 := d3.free
    have hs2 := b3.lt
    have hs3 := d3.lt
    clear b2 d2 b3 d3 hg3 HG2
    go_wp2
    refine bodyPost_ret (v := .agg #[.int .i64 x, .int .i64 y]) (by simp [results, Tryd.results66, go_sem, *]) rfl ⟨x, y, wideB_mk hx hy, rfl, ?_, ?_⟩
    · exact ((hc3.store HC.out (by omega) _ _).store HC.out (by omega) _ _).store HC.out (by omega) _ _
    · exact grown_store (grown_store (grown_store HG3.out (by omega) _ _) (by omega) _ _) (by omega) _ _

/-- The cells of wide numbers in a row. -/
def flatW (ws : List (Int × Int)) : List Value := ws.flatMap fun p => [.int .i64 p.1, .int .i64 p.2]

theorem flatW_push (ws : List (Int × Int)) (x y : Int) : flatW ws ++ [.int .i64 x, .int .i64 y] = flatW (ws ++ [(x, y)]) := by simp [flatW]

theorem flatW_at : ∀ (ws : List (Int × Int)) (j : Nat), j < ws.length → (flatW ws)[j * 2]? = some (.int .i64 (ws.getD j (0, 0)).1) ∧ (flatW ws)[j * 2 + 1]? = some (.int .i64 (ws.getD j (0, 0)).2)
  | [], j, h => by simp at h
  | p :: ws, 0, _ => by simp [flatW]
  | p :: ws, j + 1, h => by
    have := flatW_at ws j (by simpa using h)
    have e1 : (j + 1) * 2 = j * 2 + 1 + 1 := by omega
    have e2 : (j + 1) * 2 + 1 = j * 2 + 1 + 1 + 1 := by omega
    rw [e1]
    simpa [flatW] using this

theorem own_wides {w : World} {base n : Nat} {v : Value} {ws : List (Int × Int)} (h : w.ownsRow base 25 2 v n (flatW ws)) (hn : ws.length = n) : ∃ a cap, v = .slice a ws.length cap ∧ ws.length ≤ cap ∧ Wides w a ws := by
  rcases h.2 with ⟨rfl, h0⟩ | ⟨g, cap, cur, rfl, hg, hh, hnc, hcp, hcs, htake⟩
  · subst h0
    exact ⟨none, 0, by rw [hn], by omega, fun hp => by omega⟩
  · refine ⟨some ⟨g, 0, none⟩, cap, by rw [hn], by omega, fun hp => ⟨g, 0, rfl, (Array.getElem?_eq_some_iff.1 hh).1, fun j hj => ?_⟩⟩
    obtain ⟨e1, e2⟩ := flatW_at ws j hj
    rw [← htake, List.getElem?_take, if_pos (by omega)] at e1 e2
    rw [Nat.zero_add, cell_of_row w g _ cur 25 _ hh, cell_of_row w g _ cur 25 _ hh]
    exact ⟨by simpa using e1, by simpa using e2⟩

theorem own_grown4 {w w' : World} {base e size p : Nat} {v : Value} {n : Nat} {xs : List Value} (h : w.ownsRow base e size v n xs) (hg : w.grownBy w' (some p)) (hp : p < base) : w'.ownsRow base e size v n xs := by
  refine ⟨h.1, ?_⟩
  rcases h.2 with hn | ⟨g, cap, cur, rfl, hgb, hh, rest⟩
  · exact .inl hn
  · exact .inr ⟨g, cap, cur, rfl, hgb, (hg.block g (Array.getElem?_eq_some_iff.1 hh).1 (by simp; omega)).trans hh, rest⟩

theorem own_ne {w : World} {base e size : Nat} {v : Value} {n : Nat} {xs : List Value} (h : w.ownsRow base e size v n xs) {k : Nat} (hk : k < base) : some k ≠ v.ownBlock := by
  rcases h.2 with ⟨rfl, _⟩ | ⟨g, cap, cur, rfl, hgb, _⟩
  · simp [Value.ownBlock]
  · simp [Value.ownBlock]; omega

theorem own_ge4 {w : World} {base e size : Nat} {v : Value} {n : Nat} {xs : List Value} (h : w.ownsRow base e size v n xs) {x : Nat} (hx : v.ownBlock = some x) : base ≤ x := by
  rcases h.2 with ⟨rfl, _⟩ | ⟨g, cap, cur, rfl, hgb, _⟩
  · simp [Value.ownBlock] at hx
  · simp [Value.ownBlock] at hx; omega

theorem own_free {w : World} {base e size : Nat} {v : Value} {n : Nat} {xs : List Value} (h : w.ownsRow base e size v n xs) {x : Nat} (hx : v.ownBlock = some x) (i : Nat) : w.frozen? ⟨x, i, none⟩ = false := by
  rcases h.2 with ⟨rfl, _⟩ | ⟨g, cap, cur, rfl, hgb, hh, _⟩
  · simp [Value.ownBlock] at hx
  · simp [Value.ownBlock] at hx; subst hx; exact free_in hh

theorem Wides.far {w : World} {a : Option Addr} {ws : List (Int × Int)} (h : Wides w a ws) {k : Nat} (hk : ∀ b off, a = some ⟨b, off, none⟩ → k ≠ b) (i : Nat) (v : Value) : Wides (w.setCell ⟨k, i, none⟩ v) a ws := fun hp => by
  obtain ⟨b, off, ha, hb, hc⟩ := h hp
  subst ha
  exact (h.set i (hk b off rfl) v) hp

/-- A call whose wide numbers lie in memory from block B on. -/
def RepNew (B : Nat) (arch num : Int) (ws : List (Int × Int)) (v : Value) (w : World) : Prop := ∃ a cap, v = .agg #[.int .i64 arch, .int .i64 num, .slice a ws.length cap] ∧ ws.length ≤ cap ∧ Wides w a ws ∧ (∀ b off, a = some ⟨b, off, none⟩ → B ≤ b) ∧ ∀ b off, a = some ⟨b, off, none⟩ → ∀ i, w.frozen? ⟨b, i, none⟩ = false

set_option maxRecDepth 100000 in
set_option maxHeartbeats 2000000 in
theorem call_any (p : Nat) (a : Option Addr) (len cap : Nat) (w : World) (hC : Cur w p a len cap) :
    Calls Tryd.prog 30 #[.pointer (some ⟨p, 0, none⟩)] w fun e w' => ∃ (arch num : Int) (ws : List (Int × Int)) (v : Value), callB arch num ws = true ∧ e = .returned v ∧ RepNew w.heap.size arch num ws v w' ∧ Cur w' p a len cap ∧ w.grownBy w' (some p) := by
  obtain ⟨i0, hi, hz0, hz1, hz2⟩ := info_parts Tryd.infoW
  have hp := hC.lt
  have HC : Hid (Cur w p a len cap) := hC
  clear hC
  go_enter Tryd.func30, Tryd.ntmps30
  go_wp2_with fail
  refine (pick_list [62, 62, 62, 62, 3] _ p a len cap _ ((HC.out.alloc _).alloc _) (by have := Blk.new (w.alloc (.cells #[.int .i64 0, .int .i64 0, .slice none 0 0] 30)) [.int .i64 62, .int .i64 62, .int .i64 62, .int .i64 62, .int .i64 3] 3; simpa using this) (by omega) (by simp) (by simp)).mono ?_
  rintro e w1 ⟨arch, ha, rfl, hc1, hg1⟩
  have harch : halfB arch = true := by
    rw [halfB_true]
    simp only [List.mem_cons, List.not_mem_nil, or_false] at ha
    omega
  have r1 := ((Blk.new w [.int .i64 0, .int .i64 0, .slice none 0 0] 30).alloc (.cells #[.int .i64 62, .int .i64 62, .int .i64 62, .int .i64 62, .int .i64 3] 3)).grown hg1 (by simp; omega)
  have g1 : w.grownBy w1 (some p) := grown_trans (grown_alloc (grown_alloc (grown_refl w _) _) _) hg1
  have HC1 : Hid (Cur w1 p a len cap) := hc1
  have hp1 := hc1.lt
  clear hg1 hc1 ha
  go_wp2_with fail
  refine (pick_list [0, 1, 2, 3, 4, 6, 9, 11, 4294967295, 77] _ p a len cap _ (HC1.out.alloc _) (Blk.new _ _ _) (by omega) (by simp) (by simp)).mono ?_
  rintro e w2 ⟨num, hn, rfl, hc2, hg2⟩
  have hnum : halfB num = true := by
    rw [halfB_true]
    simp only [List.mem_cons, List.not_mem_nil, or_false] at hn
    omega
  have r2 := (r1.alloc (.cells #[.int .i64 0, .int .i64 1, .int .i64 2, .int .i64 3, .int .i64 4, .int .i64 6, .int .i64 9, .int .i64 11, .int .i64 4294967295, .int .i64 77] 3)).grown hg2 (by simp; omega)
  have g2 : w.grownBy w2 (some p) := grown_trans (grown_alloc g1 _) hg2
  have hp2 := hc2.lt
  have HS : Hid (Cur w2 p a len cap ∧ w.grownBy w2 (some p) ∧ Blk w2 w.heap.size [.int .i64 0, .int .i64 0, .slice none 0 0] 30) := ⟨hc2, g2, r2⟩
  have hs2 := r2.lt
  clear hg2 hc2 hn r1 g1 r2 g2 HC1
  go_wp2_with fail
  obtain ⟨X, hX⟩ : ∃ X, X = w2.heap.size := ⟨_, rfl⟩
  rw [← hX]
  have HX : Hid (X = w2.heap.size) := hX
  rw [← hX] at hp2 hs2
  clear hX
  go_loopw [4] (fun i wr => ∃ (k : Nat) (ws : List (Int × Int)) (v : Value), i = .int .i64 k ∧ k ≤ 3 ∧ ws.length = k ∧ ws.all wideB = true ∧ Blk wr X [.int .i64 arch, .int .i64 num, v] 30 ∧ Blk wr w.heap.size [.int .i64 0, .int .i64 0, .slice none 0 0] 30 ∧ wr.ownsRow (X + 1) 25 2 v k (flatW ws) ∧ Cur wr p a len cap ∧ w.grownBy wr (some p)) (fun i _ => 3 - (intOf i).toNat)
  case atStart =>
    obtain ⟨h1, h2, h3⟩ := HS.out
    exact ⟨0, [], _, rfl, by omega, rfl, rfl, by rw [HX.out]; exact Blk.new _ _ _, h3.alloc _, ⟨rfl, .inl ⟨rfl, rfl⟩⟩, h1.alloc _, grown_alloc h2 _⟩
  case round =>
    obtain ⟨k, ws, v, rfl, hk, hlen, hall, hx, hr, hown, hc, hg⟩ := hrel
    have hXp : X ≠ p := by omega
    have hXw : w.heap.size < X := by omega
    have hXr := hx.lt
    by_cases hlt : k < 3
    · have bk : (k : Int) < 3 := by omega
      have HI : Hid (ws.length = k ∧ ws.all wideB = true ∧ Blk wr X [.int .i64 arch, .int .i64 num, v] 30 ∧ Blk wr w.heap.size [.int .i64 0, .int .i64 0, .slice none 0 0] 30 ∧ wr.ownsRow (X + 1) 25 2 v k (flatW ws) ∧ Cur wr p a len cap ∧ w.grownBy wr (some p)) := ⟨hlen, hall, hx, hr, hown, hc, hg⟩
      clear hlen hall hx hr hown hc hg HS
      go_wp2_with fail
      refine (wide_any p a len cap _ HI.out.2.2.2.2.2.1).mono ?_
      rintro e w4 ⟨x, y, hxy, rfl, hc4, hg4⟩
      have HJ : Hid (ws.length = k ∧ ws.all wideB = true ∧ Blk w4 X [.int .i64 arch, .int .i64 num, v] 30 ∧ Blk w4 w.heap.size [.int .i64 0, .int .i64 0, .slice none 0 0] 30 ∧ w4.ownsRow (X + 1) 25 2 v k (flatW ws) ∧ Cur w4 p a len cap ∧ w.grownBy w4 (some p)) := by
        obtain ⟨h1, h2, h3, h4, h5, h6, h7⟩ := HI.out
        exact ⟨h1, h2, h3.grown hg4 (by simp; omega), h4.grown hg4 (by simp; omega), own_grown4 h5 hg4 (by omega), hc4, grown_trans h7 hg4⟩
      have q3 := HJ.out.2.2.1.cell 2 _ rfl
      have fX := HJ.out.2.2.1.free
      have hX4 := HJ.out.2.2.1.lt
      clear HI hc4 hg4
      go_wp2_with (at_builtin; refine wpList_append_lies _ rfl _ _ 28 rfl (X + 1) 25 i0 (.agg #[.int .i64 0, .int .i64 0]) 2 16 Tryd.underlying28 hi hz0 hz1 hz2 rfl (by decide) _ _ _ rfl ((HJ.out.2.2.2.2.1.alloc _).alloc _) ⟨w4.heap.size + 1, 0, none⟩ 1 1 [.int .i64 x, .int .i64 y] rfl rfl ?c1 ?c2 (by omega) ?c3 ?c4 ?c5 (w4.heap.size + 1 + 1) (by simp) ?_)
      case c1 => exact World.news_of_block (B := w4.heap.size + 1) (cs := #[.int .i64 x, .int .i64 y]) (t := 25) (fr := (0, 0)) (by have := Blk.new (w4.alloc (.cells #[.int .i64 x, .int .i64 y] 25)) [.int .i64 x, .int .i64 y] 25; simpa [Blk] using this)
      case c2 => simp [Value.oneCell']
      case c3 => unfold maxLen; omega
      case c4 => omega
      case c5 => simp; omega
      intro g cap' w5 hown5 hgrow5 hat hlt5
      have HK : Hid ((ws ++ [(x, y)]).length = k + 1 ∧ (ws ++ [(x, y)]).all wideB = true ∧ Blk w5 X [.int .i64 arch, .int .i64 num, v] 30 ∧ Blk w5 w.heap.size [.int .i64 0, .int .i64 0, .slice none 0 0] 30 ∧ w5.ownsRow (X + 1) 25 2 (.slice (some ⟨g, 0, none⟩) (k + 1) cap') (k + 1) (flatW (ws ++ [(x, y)])) ∧ Cur w5 p a len cap ∧ w.grownBy w5 (some p)) := by
        obtain ⟨h1, h2, h3, h4, h5, h6, h7⟩ := HJ.out
        refine ⟨by simp [h1], by simp [h2, hxy], ((h3.alloc _).alloc _).grown hgrow5 (own_ne h5 (by omega)), ((h4.alloc _).alloc _).grown hgrow5 (own_ne h5 (by omega)), by rw [← flatW_push]; exact hown5, ((h6.alloc _).alloc _).kept hgrow5 (Ne.symm (own_ne h5 (by omega))) (fun b off e hl => Ne.symm (own_ne h5 (by have := HC.out.code b off e hl; omega))), grown_own (grown_alloc (grown_alloc h7 _) _) hgrow5 (fun x hx => by have := own_ge4 h5 hx; omega)⟩
      have fX5 := HK.out.2.2.1.free
      have cX5 := HK.out.2.2.1.cell 2 _ rfl
      clear hown5 hgrow5 hat HJ q3 fX
      go_wp2
      go_roundw
      case rel =>
        obtain ⟨h1, h2, h3, h4, h5, h6, h7⟩ := HK.out
        exact ⟨k + 1, ws ++ [(x, y)], _, by go_num, by omega, h1, h2, h3.set 2 _, h4.other (by omega) _ _, ownsRow_setCell_below h5 (by show X < X + 1; omega) _, h6.store HC.out (by omega) _ _, grown_store h7 (by omega) _ _⟩
      case measure => simp [intOf]; omega
    · have hk3 : k = 3 := by omega
      have bk : ¬ ((k : Int) < 3) := by omega
      have HI : Hid (callB arch num ws = true ∧ Cur wr p a len cap ∧ w.grownBy wr (some p)) := ⟨by rw [callB_all harch hnum (by omega)]; exact hall, hc, hg⟩
      obtain ⟨av, cv, rfl, hcv, hwv⟩ := own_wides hown hlen
      have HWV : Hid (Wides wr av ws ∧ (∀ b off, av = some ⟨b, off, none⟩ → X < b) ∧ ∀ b off, av = some ⟨b, off, none⟩ → ∀ i, wr.frozen? ⟨b, i, none⟩ = false) := ⟨hwv, fun b off e => by
        have := own_ge4 hown (x := b) (by rw [e]; rfl)
        omega, fun b off e => own_free hown (by rw [e]; rfl)⟩
      obtain ⟨q1, q2, q3, q4, q5, q6⟩ := (⟨hx.cell 0 _ rfl, hx.cell 1 _ rfl, hx.cell 2 _ rfl, hr.cell 0 _ rfl, hr.cell 1 _ rfl, hr.cell 2 _ rfl⟩ : _ ∧ _ ∧ _ ∧ _ ∧ _ ∧ _)
      have fR := hr.free
      clear hwv hown hx hr hc hg hall HS
      go_wp2
      refine bodyPost_ret (v := .agg #[.int .i64 arch, .int .i64 num, .slice av ws.length cv]) (by simp [results, Tryd.results30, go_sem, *]) rfl ?_
      refine ⟨arch, num, ws, HI.out.1, .agg #[.int .i64 arch, .int .i64 num, .slice av ws.length cv], rfl, ⟨av, cv, rfl, hcv, ?_, fun b off e => by have := HWV.out.2.1 b off e; omega, fun b off e i => by rw [World.frozen?_setCell, World.frozen?_setCell, World.frozen?_setCell]; exact HWV.out.2.2 b off e i⟩, ?_, ?_⟩
      · exact ((HWV.out.1.far (fun b off e => by have := HWV.out.2.1 b off e; omega) _ _).far (fun b off e => by have := HWV.out.2.1 b off e; omega) _ _).far (fun b off e => by have := HWV.out.2.1 b off e; omega) _ _
      · exact ((HI.out.2.1.store HC.out (by omega) _ _).store HC.out (by omega) _ _).store HC.out (by omega) _ _
      · exact grown_store (grown_store (grown_store HI.out.2.2 (by omega) _ _) (by omega) _ _) (by omega) _ _

theorem condB_mk {ag mh ml cm vh vl : Int} (h1 : 0 ≤ ag ∧ ag ≤ 2) (h2 : 1 ≤ cm ∧ cm ≤ 6) (h3 : wideB (mh, ml) = true) (h4 : wideB (vh, vl) = true) : condB ⟨ag, mh, ml, cm, vh, vl⟩ = true := by
  unfold condB
  rw [inB_true4.2 h1, inB_true4.2 h2, h3, h4]
  rfl

set_option maxRecDepth 100000 in
set_option maxHeartbeats 2000000 in
theorem cond_any (p : Nat) (a : Option Addr) (len cap : Nat) (w : World) (hC : Cur w p a len cap) :
    Calls Tryd.prog 29 #[.pointer (some ⟨p, 0, none⟩)] w fun e w' => ∃ ag mh ml cm vh vl : Int, condB ⟨ag, mh, ml, cm, vh, vl⟩ = true ∧ e = .returned (.agg #[.int .i64 ag, .int .i64 mh, .int .i64 ml, .int .i64 cm, .int .i64 vh, .int .i64 vl]) ∧ Cur w' p a len cap ∧ w.grownBy w' (some p) := by
  have hp := hC.lt
  have HC : Hid (Cur w p a len cap) := hC
  clear hC
  go_enter Tryd.func29, Tryd.ntmps29
  go_wp2_with fail
  refine (below_any 3 p a len cap _ (HC.out.alloc _) (by omega)).mono ?_
  rintro e w1 ⟨ag, hag, _, _, rfl, hc1, hg1⟩
  have hag3 := hag (by omega)
  have r1 := (Blk.new w [.int .i64 0, .int .i64 0, .int .i64 0, .int .i64 0, .int .i64 0, .int .i64 0] 27).grown hg1 (ne_some (by omega))
  have HG1 : Hid (w.grownBy w1 (some p)) := grown_trans (grown_alloc (grown_refl w _) _) hg1
  have HC1 : Hid (Cur w1 p a len cap) := hc1
  clear hg1 hc1 hag
  go_wp2_with fail
  refine (below_any 6 p a len cap _ HC1.out (by omega)).mono ?_
  rintro e w2 ⟨cm, hcm, _, _, rfl, hc2, hg2⟩
  have hcm6 := hcm (by omega)
  have r2 := r1.grown hg2 (ne_some (by omega))
  have HG2 : Hid (w.grownBy w2 (some p)) := grown_trans HG1.out hg2
  have HC2 : Hid (Cur w2 p a len cap) := hc2
  clear hg2 hc2 hcm r1 HG1 HC1
  go_wp2_with fail
  refine (wide_any p a len cap _ HC2.out).mono ?_
  rintro e w3 ⟨vh, vl, hv, rfl, hc3, hg3⟩
  have r3 := r2.grown hg3 (ne_some (by omega))
  have HG3 : Hid (w.grownBy w3 (some p)) := grown_trans HG2.out hg3
  have HC3 : Hid (Cur w3 p a len cap) := hc3
  have hs3 := r3.lt
  have hp3 := hc3.lt
  clear hg3 hc3 r2 HG2 HC2
  go_wp2_with fail
  refine (once_any 3 p a len cap _ (HC3.out.alloc _) (by omega)).mono ?_
  rintro e w4 ⟨b, rfl, hc4, hg4⟩
  have r4 := (r3.alloc (.cells #[.int .i64 (ag : Int), .int .i64 4294967295, .int .i64 4294967295, .int .i64 (1 + (cm : Int)), .int .i64 vh, .int .i64 vl] 27)).grown hg4 (ne_some (by omega))
  have x4 := (Blk.new w3 [.int .i64 (ag : Int), .int .i64 4294967295, .int .i64 4294967295, .int .i64 (1 + (cm : Int)), .int .i64 vh, .int .i64 vl] 27).grown hg4 (ne_some (by omega))
  have HG4 : Hid (w.grownBy w4 (some p)) := grown_trans (grown_alloc HG3.out _) hg4
  have HC4 : Hid (Cur w4 p a len cap) := hc4
  have hn4 : w.heap.size ≠ w3.heap.size := by omega
  clear hg4 hc4 r3 HG3 HC3
  have h1 : (0 : Int) ≤ (ag : Int) ∧ (ag : Int) ≤ 2 := by omega
  have h2 : (1 : Int) ≤ 1 + (cm : Int) ∧ 1 + (cm : Int) ≤ 6 := by omega
  generalize (ag : Int) = A at *
  generalize 1 + (cm : Int) = M at *
  cases b
  · obtain ⟨q0, q1, q2, q3, q4, q5⟩ := (⟨x4.cell 0 _ rfl, x4.cell 1 _ rfl, x4.cell 2 _ rfl, x4.cell 3 _ rfl, x4.cell 4 _ rfl, x4.cell 5 _ rfl⟩ : _ ∧ _ ∧ _ ∧ _ ∧ _ ∧ _)
    obtain ⟨s0, s1, s2, s3, s4, s5⟩ := (⟨r4.cell 0 _ rfl, r4.cell 1 _ rfl, r4.cell 2 _ rfl, r4.cell 3 _ rfl, r4.cell 4 _ rfl, r4.cell 5 _ rfl⟩ : _ ∧ _ ∧ _ ∧ _ ∧ _ ∧ _)
    have fr := r4.free
    have hs4 := r4.lt
    have HB : Hid (condB ⟨A, 4294967295, 4294967295, M, vh, vl⟩ = true) := condB_mk h1 h2 (by decide) hv
    clear x4 r4 h1 h2 hv
    go_wp2
    refine bodyPost_ret (v := .agg #[.int .i64 A, .int .i64 4294967295, .int .i64 4294967295, .int .i64 M, .int .i64 vh, .int .i64 vl]) (by simp [results, Tryd.results29, go_sem, *]) rfl ⟨A, _, _, M, vh, vl, HB.out, rfl, ?_, ?_⟩
    · exact (((((HC4.out.store HC.out (by omega) _ _).store HC.out (by omega) _ _).store HC.out (by omega) _ _).store HC.out (by omega) _ _).store HC.out (by omega) _ _).store HC.out (by omega) _ _
    · exact grown_store (grown_store (grown_store (grown_store (grown_store (grown_store HG4.out (by omega) _ _) (by omega) _ _) (by omega) _ _) (by omega) _ _) (by omega) _ _) (by omega) _ _
  · go_wp2_with fail
    refine (wide_any p a len cap _ HC4.out).mono ?_
    rintro e w5 ⟨mh, ml, hm, rfl, hc5, hg5⟩
    have r5 := r4.grown hg5 (ne_some (by omega))
    have x5 := x4.grown hg5 (ne_some (by omega))
    have HG5 : Hid (w.grownBy w5 (some p)) := grown_trans HG4.out hg5
    have HC5 : Hid (Cur w5 p a len cap) := hc5
    obtain ⟨q0, q1, q2, q3, q4, q5⟩ := (⟨x5.cell 0 _ rfl, x5.cell 1 _ rfl, x5.cell 2 _ rfl, x5.cell 3 _ rfl, x5.cell 4 _ rfl, x5.cell 5 _ rfl⟩ : _ ∧ _ ∧ _ ∧ _ ∧ _ ∧ _)
    obtain ⟨s0, s1, s2, s3, s4, s5⟩ := (⟨r5.cell 0 _ rfl, r5.cell 1 _ rfl, r5.cell 2 _ rfl, r5.cell 3 _ rfl, r5.cell 4 _ rfl, r5.cell 5 _ rfl⟩ : _ ∧ _ ∧ _ ∧ _ ∧ _ ∧ _)
    have fr := r5.free
    have fx := x5.free
    have hs5 := r5.lt
    have HB : Hid (condB ⟨A, mh, ml, M, vh, vl⟩ = true) := condB_mk h1 h2 hm hv
    clear x5 r5 x4 r4 h1 h2 hv hm hc5 hg5 HG4 HC4
    go_wp2
    refine bodyPost_ret (v := .agg #[.int .i64 A, .int .i64 mh, .int .i64 ml, .int .i64 M, .int .i64 vh, .int .i64 vl]) (by simp [results, Tryd.results29, go_sem, *]) rfl ⟨A, _, _, M, vh, vl, HB.out, rfl, ?_, ?_⟩
    · exact (((((((HC5.out.store HC.out (by omega) _ _).store HC.out (by omega) _ _).store HC.out (by omega) _ _).store HC.out (by omega) _ _).store HC.out (by omega) _ _).store HC.out (by omega) _ _).store HC.out (by omega) _ _).store HC.out (by omega) _ _
    · exact grown_store (grown_store (grown_store (grown_store (grown_store (grown_store (grown_store (grown_store HG5.out (by omega) _ _) (by omega) _ _) (by omega) _ _) (by omega) _ _) (by omega) _ _) (by omega) _ _) (by omega) _ _) (by omega) _ _

/-- Ascending numbers that are drawn: all right, the next one at least a. -/
def Up (zs : List Int) (at' : Nat) : Prop := (List.range zs.length).all (okAt zs) = true ∧ (0 < zs.length → zs.getD (zs.length - 1) 0 + 1 = (at' : Int)) ∧ at' ≤ 3 * zs.length

theorem okAt_push (zs : List Int) (z : Int) (i : Nat) (hi : i < zs.length) : okAt (zs ++ [z]) i = okAt zs i := by
  unfold okAt
  have e1 : (zs ++ [z]).getD i 0 = zs.getD i 0 := by simp [List.getD_eq_getElem?_getD, List.getElem?_append_left hi]
  have e2 : (zs ++ [z]).getD (i - 1) 0 = zs.getD (i - 1) 0 := by simp [List.getD_eq_getElem?_getD, List.getElem?_append_left (show i - 1 < zs.length by omega)]
  rw [e1, e2]

theorem Up.push {zs : List Int} {at' y : Nat} (h : Up zs at') (hy : y < 3) (hl : zs.length ≤ 100) : Up (zs ++ [(at' : Int) + (y : Int)]) (at' + 1 + y) := by
  obtain ⟨h1, h2, h3⟩ := h
  refine ⟨?_, fun _ => ?_, by simp; omega⟩
  · rw [List.length_append, List.length_singleton, List.range_succ, List.all_append, Bool.and_eq_true]
    refine ⟨?_, ?_⟩
    · rw [List.all_eq_true] at h1 ⊢
      intro i hi
      have hi' : i < zs.length := List.mem_range.1 hi
      rw [okAt_push zs _ i hi']
      exact h1 i hi
    · simp only [List.all_cons, List.all_nil, Bool.and_true]
      unfold okAt
      have e1 : (zs ++ [(at' : Int) + (y : Int)]).getD zs.length 0 = (at' : Int) + (y : Int) := by simp [List.getD_eq_getElem?_getD]
      rw [e1, Bool.and_eq_true]
      refine ⟨halfB_true.2 (by omega), ?_⟩
      by_cases h0 : zs.length = 0
      · simp [h0]
      · have e2 : (zs ++ [(at' : Int) + (y : Int)]).getD (zs.length - 1) 0 = zs.getD (zs.length - 1) 0 := by simp [List.getD_eq_getElem?_getD, List.getElem?_append_left (show zs.length - 1 < zs.length by omega)]
        rw [e2]
        have := h2 (by omega)
        rw [decide_eq_false h0, Bool.false_or]
        exact decide_eq_true (by omega)
  · simp [List.getD_eq_getElem?_getD]
    omega

theorem Up.ok {zs : List Int} {at' : Nat} (h : Up zs at') (hl : zs.length ≤ 4) : numsB zs = true := by
  rw [numsB_okAt, h.1, decide_eq_true hl]
  rfl

theorem own_capM {w : World} {B e size n c m : Nat} {a : Option Addr} {xs : List Value} (h : w.ownsRow B e size (.slice a n c) m xs) : n ≤ c := by
  rcases h.2 with ⟨hv, _⟩ | ⟨g, cap, cur, hv, _, _, hnc, _⟩
  · injection hv with h1 h2 h3; omega
  · injection hv with h1 h2 h3; omega

theorem Blk.grownP {W W' : World} {k p : Nat} {l : List Value} {t : TypeId} (h : Blk W k l t) (hg : W.grownBy W' (some p)) (hk : k ≠ p) : Blk W' k l t := h.grown hg (ne_some hk)

theorem Blk.newAt (W : World) (l : List Value) (t : TypeId) (k : Nat) (hk : k = W.heap.size) : Blk (W.alloc (.cells l.toArray t)) k l t := by
  subst hk; exact Blk.new W l t

theorem grown_drew1 {w w' : World} {row : Option Nat} (h : w.grownBy w' row) : w.grownBy w'.drew row := ⟨h.os, h.tape, h.output, h.size, h.block⟩

set_option maxRecDepth 100000 in
set_option maxHeartbeats 6400000 in
theorem made_any (p : Nat) (a : Option Addr) (len cap : Nat) (w : World) (hC : Cur w p a len cap) :
    Calls Tryd.prog 43 #[.pointer (some ⟨p, 0, none⟩)] w fun e w' => ∃ (r : RN) (a1 : Option Addr) (n1 c1 : Nat) (a2 : Option Addr) (n2 c2 : Nat) (ac da : Int), ruleB r = true ∧ Small r ∧ e = .returned (.agg #[.slice a1 n1 c1, .slice a2 n2 c2, .int .i64 ac, .int .i64 da]) ∧ (RuleN w.heap.size w' r [.slice a1 n1 c1, .slice a2 n2 c2, .int .i64 ac, .int .i64 da] ∧ n1 ≤ c1) ∧ Cur w' p a len cap ∧ w.grownBy w' (some p) := by
  obtain ⟨i0, hi, hz0, hz1, hz2⟩ := info_parts Tryd.infoI
  obtain ⟨j0, ji, jz0, jz1, jz2⟩ := info_parts Tryd.infoCo
  have hp := hC.lt
  have HC : Hid (Cur w p a len cap) := hC
  clear hC
  go_enter Tryd.func43, Tryd.ntmps43
  go_wp2_with fail
  refine (pick_list [0, 1, 2, 3, 4, 4, 5] _ p a len cap _ ((HC.out.alloc _).alloc _) (Blk.newAt _ _ _ _ (by simp)) (by omega) (by simp) (by simp)).mono ?_
  rintro e w1 ⟨ac, ha, rfl, hc1, hg1⟩
  have hact : 0 ≤ ac ∧ ac ≤ 5 := by
    simp only [List.mem_cons, List.not_mem_nil, or_false] at ha
    omega
  have r1 := ((Blk.new w [.slice none 0 0, .slice none 0 0, .int .i64 0, .int .i64 0] 47).alloc (.cells #[.int .i64 0, .int .i64 1, .int .i64 2, .int .i64 3, .int .i64 4, .int .i64 4, .int .i64 5] 3)).grown hg1 (by simp; omega)
  have g1 : w.grownBy w1 (some p) := grown_trans (grown_alloc (grown_alloc (grown_refl w _) _) _) hg1
  have HC1 : Hid (Cur w1 p a len cap) := hc1
  have hp1 := hc1.lt
  have hs1 := r1.lt
  clear hg1 hc1 ha
  obtain ⟨X, hX⟩ : ∃ X, X = w1.heap.size := ⟨_, rfl⟩
  have hXp : X ≠ p := by omega
  have hXw : w.heap.size < X := by omega
  by_cases h2 : ac = 2
  · have h2' : (ac == 2) = true := by simpa using h2
    clear h2
    go_wp2_with fail
    refine (pick_list [1, 13, 65535] _ p a len cap _ ((HC1.out.alloc _).alloc _) (Blk.newAt _ _ _ _ (by simp)) (by omega) (by simp) (by simp)).mono ?_
    rintro e w9 ⟨da, hd, rfl, hc9, hg9⟩
    have hda : 0 ≤ da ∧ da ≤ 65535 := by
      simp only [List.mem_cons, List.not_mem_nil, or_false] at hd
      omega
    have HO : Hid (outB ac da = true) := by unfold Hid outB; rw [inB_true4.2 hact, inB_true4.2 hda]; rfl
    have hx9 := (Blk.new w1 [.slice none 0 0, .slice none 0 0, .int .i64 ac, .int .i64 0] 47).alloc (.cells #[.int .i64 1, .int .i64 13, .int .i64 65535] 3)
    rw [← hX] at hx9
    have hx9 := hx9.grownP hg9 hXp
    have hr9 := ((r1.alloc (.cells #[.slice none 0 0, .slice none 0 0, .int .i64 ac, .int .i64 0] 47)).alloc (.cells #[.int .i64 1, .int .i64 13, .int .i64 65535] 3)).grownP hg9 (by omega)
    have g9 := grown_trans (grown_alloc (grown_alloc g1 (.cells #[.slice none 0 0, .slice none 0 0, .int .i64 ac, .int .i64 0] 47)) (.cells #[.int .i64 1, .int .i64 13, .int .i64 65535] 3)) hg9
    have q3 := hx9.cell 3 _ rfl
    have f3 := hx9.free 3
    clear hg9 hd hda r1 g1 hs1 hp1 HC1
    rw [← hX]
    clear hX
    go_wp2_with fail
    have hx2 : Blk (w9.setCell ⟨X, 3, none⟩ (.int .i64 da)) X [.slice none 0 0, .slice none 0 0, .int .i64 ac, .int .i64 da] 47 := hx9.set 3 _
    have hr2 : Blk (w9.setCell ⟨X, 3, none⟩ (.int .i64 da)) w.heap.size [.slice none 0 0, .slice none 0 0, .int .i64 0, .int .i64 0] 47 := hr9.other (by omega) _ _
    have hc2 := hc9.store HC.out (k := X) (by omega) 3 (.int .i64 da)
    have g2 := grown_store g9 (k := X) (by omega) 3 (.int .i64 da)
    clear hx9 hr9 hc9 g9 q3 f3
    generalize w9.setCell ⟨X, 3, none⟩ (.int .i64 da) = w2 at *
    have hp2 := hc2.lt
    have hX2 := hx2.lt
    go_wp2_with fail
    refine (below_any 4 p a len cap _ hc2 (by omega)).mono ?_
    rintro e w3 ⟨xn, hxn, _, _, rfl, hc3, hg3⟩
    have hx3 := hx2.grownP hg3 hXp
    have hr3 := hr2.grownP hg3 (by omega)
    have g3 := grown_trans g2 hg3
    have hxn4 := hxn (by omega)
    have HS3 : Hid (Cur w3 p a len cap ∧ w.grownBy w3 (some p) ∧ Blk w3 w.heap.size [.slice none 0 0, .slice none 0 0, .int .i64 0, .int .i64 0] 47 ∧ Blk w3 X [.slice none 0 0, .slice none 0 0, .int .i64 ac, .int .i64 da] 47) := ⟨hc3, g3, hr3, hx3⟩
    clear hc3 hg3 hx3 hr3 g3 hxn hx2 hr2 hc2 g2 hp2
    obtain ⟨N, hN⟩ : ∃ N : Int, N = (xn : Int) - 1 := ⟨_, rfl⟩
    have hN3 : N ≤ 2 := by omega
    go_wp2_with fail
    rw [← hN]
    clear hN hxn4
    go_loopw [5, 6] (fun av i wr => ∃ (k at' : Nat) (zs : List Int) (v0 : Value), i = .int .i64 k ∧ av = .int .i64 at' ∧ k ≤ 3 ∧ Hid (zs.length = k ∧ (0 < k → (k : Int) ≤ N) ∧ Up zs at' ∧ Blk wr X [v0, .slice none 0 0, .int .i64 ac, .int .i64 da] 47 ∧ Blk wr w.heap.size [.slice none 0 0, .slice none 0 0, .int .i64 0, .int .i64 0] 47 ∧ wr.ownsRow (X + 1) 3 1 v0 k (zs.map (Value.int .i64)) ∧ Cur wr p a len cap ∧ w.grownBy wr (some p))) (fun _ i _ => 4 - (intOf i).toNat)
    case atStart => exact ⟨0, 0, [], _, rfl, rfl, by omega, rfl, by omega, ⟨rfl, fun h => by simp at h, by simp⟩, HS3.out.2.2.2, HS3.out.2.2.1, ⟨rfl, .inl ⟨rfl, rfl⟩⟩, HS3.out.1, HS3.out.2.1⟩
    case round =>
      obtain ⟨k, at', zs, v0, rfl, rfl, hk, HI⟩ := hrel
      by_cases hlt : (k : Int) < N
      · have hk2 : k < 2 := by omega
        have hat : at' ≤ 9 := by have := HI.out.2.2.1.2.2; have := HI.out.1; omega
        go_wp2_with fail
        refine (below_any 3 p a len cap _ HI.out.2.2.2.2.2.2.1 (by omega)).mono ?_
        rintro e w4 ⟨y, hy, _, _, rfl, hc4, hg4⟩
        have hy3 := hy (by omega)
        have HJ : Hid (zs.length = k ∧ Up zs at' ∧ Blk w4 X [v0, .slice none 0 0, .int .i64 ac, .int .i64 da] 47 ∧ Blk w4 w.heap.size [.slice none 0 0, .slice none 0 0, .int .i64 0, .int .i64 0] 47 ∧ w4.ownsRow (X + 1) 3 1 v0 k (zs.map (Value.int .i64)) ∧ Cur w4 p a len cap ∧ w.grownBy w4 (some p)) := by
          obtain ⟨h1, h2, h3, h4, h5, h6, h7, h8⟩ := HI.out
          exact ⟨h1, h3, h4.grownP hg4 hXp, h5.grownP hg4 (by omega), own_grown4 h6 hg4 (by omega), hc4, grown_trans h8 hg4⟩
        have q0 := HJ.out.2.2.1.cell 0 _ rfl
        have fX := HJ.out.2.2.1.free
        have hX4 := HJ.out.2.2.1.lt
        have HY : Hid ((at' : Int) + 1 + (y : Int) - 1 = (at' : Int) + (y : Int)) := by unfold Hid; omega
        have HZ : Hid (((at' + 1 + y : Nat) : Int) = (at' : Int) + 1 + (y : Int)) := by unfold Hid; omega
        clear hc4 hg4 HI hy HS3
        go_wp2_with (at_builtin; refine wpList_append_lies _ rfl _ _ 44 rfl (X + 1) 3 i0 (.int .i64 0) 1 8 Tryd.underlying44 hi hz0 hz1 hz2 rfl (by decide) _ _ _ rfl (HJ.out.2.2.2.2.1.alloc _) ⟨w4.heap.size, 0, none⟩ 1 1 [.int .i64 ((at' : Int) + 1 + (y : Int) - 1)] rfl rfl ?c1 ?c2 (by omega) ?c3 ?c4 ?c5 (w4.heap.size + 1) (by simp) ?_)
        case c1 => exact World.news_of_block (B := w4.heap.size) (cs := #[.int .i64 ((at' : Int) + 1 + (y : Int) - 1)]) (t := 3) (fr := (0, 0)) (by have := Blk.new w4 [.int .i64 ((at' : Int) + 1 + (y : Int) - 1)] 3; simpa [Blk] using this)
        case c2 => simp [Value.oneCell']
        case c3 => unfold maxLen; omega
        case c4 => omega
        case c5 => simp; omega
        intro g cap' w5 hown5 hgrow5 hat5 hlt5
        have HK : Hid ((zs ++ [(at' : Int) + (y : Int)]).length = k + 1 ∧ Up (zs ++ [(at' : Int) + (y : Int)]) (at' + 1 + y) ∧ Blk w5 X [v0, .slice none 0 0, .int .i64 ac, .int .i64 da] 47 ∧ Blk w5 w.heap.size [.slice none 0 0, .slice none 0 0, .int .i64 0, .int .i64 0] 47 ∧ w5.ownsRow (X + 1) 3 1 (.slice (some ⟨g, 0, none⟩) (k + 1) cap') (k + 1) ((zs ++ [(at' : Int) + (y : Int)]).map (Value.int .i64)) ∧ Cur w5 p a len cap ∧ w.grownBy w5 (some p)) := by
          obtain ⟨h1, h3, h4, h5, h6, h7, h8⟩ := HJ.out
          refine ⟨by simp [h1], h3.push hy3 (by omega), (h4.alloc _).grown hgrow5 (own_ne h6 (by omega)), (h5.alloc _).grown hgrow5 (own_ne h6 (by omega)), ?_, (h7.alloc _).kept hgrow5 (Ne.symm (own_ne h6 (by omega))) (fun b off e hl => Ne.symm (own_ne h6 (by have := HC.out.code b off e hl; omega))), grown_own (grown_alloc h8 _) hgrow5 (fun x hx => by have := own_ge4 h6 hx; omega)⟩
          rw [HY.out] at hown5
          rw [List.map_append]
          exact hown5
        have fX5 := HK.out.2.2.1.free
        have cX5 := HK.out.2.2.1.cell 0 _ rfl
        have hlN : (((k + 1 : Nat) : Int)) ≤ N := by omega
        have HLN : Hid (((k + 1 : Nat) : Int) ≤ N) := hlN
        clear hown5 hgrow5 hat5 HJ q0 fX hlN
        go_wp2
        go_roundw
        case rel =>
          obtain ⟨h1, h3, h4, h5, h6, h7, h8⟩ := HK.out
          exact ⟨k + 1, at' + 1 + y, zs ++ [(at' : Int) + (y : Int)], _, by go_num, by rw [HZ.out], by omega, h1, fun _ => HLN.out, h3, h4.set 0 _, h5.other (by omega) _ _, ownsRow_setCell_below h6 (by show X < X + 1; omega) _, h7.store HC.out (by omega) _ _, grown_store h8 (by omega) _ _⟩
        case measure => simp [intOf]; omega
      · have hk3 : k ≤ 2 := by
          by_cases h0 : 0 < k
          · have := HI.out.2.1 h0; omega
          · omega
        obtain ⟨B2, hB2⟩ : ∃ B2, B2 = wr.heap.size := ⟨_, rfl⟩
        have HB2 : Hid (X < B2 ∧ p < B2 ∧ ∀ x, v0.ownBlock = some x → x < B2) := ⟨by have := HI.out.2.2.2.1.lt; omega, by have := HI.out.2.2.2.2.2.2.1.lt; omega, fun x hx => by have := own_lt9 HI.out.2.2.2.2.2.1 hx; omega⟩
        have HB3 : Hid (B2 = wr.heap.size) := hB2
        clear hB2
        go_wp2_with fail
        rename World => wL
        go_loopw [7] (fun i wr => ∃ (k2 : Nat) (cs : List CN) (v1 : Value), i = .int .i64 k2 ∧ k2 ≤ 2 ∧ Hid (cs.length = k2 ∧ cs.all condB = true ∧ Blk wr X [v0, v1, .int .i64 ac, .int .i64 da] 47 ∧ Blk wr w.heap.size [.slice none 0 0, .slice none 0 0, .int .i64 0, .int .i64 0] 47 ∧ wr.ownsRow (X + 1) 3 1 v0 k (zs.map (Value.int .i64)) ∧ wr.ownsRow B2 27 6 v1 k2 (flatC cs) ∧ Cur wr p a len cap ∧ w.grownBy wr (some p) ∧ B2 ≤ wr.heap.size)) (fun i _ => 3 - (intOf i).toNat)
        case atStart => exact ⟨0, [], _, rfl, by omega, rfl, rfl, HI.out.2.2.2.1, HI.out.2.2.2.2.1, HI.out.2.2.2.2.2.1, ⟨rfl, .inl ⟨rfl, rfl⟩⟩, HI.out.2.2.2.2.2.2.1, HI.out.2.2.2.2.2.2.2, by rw [HB3.out]; exact Nat.le_refl _⟩
        case round =>
          obtain ⟨k2, cs, v1, rfl, hk2, HI2⟩ := hrel
          go_wp2_with fail
          refine (below_any 3 p a len cap _ HI2.out.2.2.2.2.2.2.1 (by omega)).mono ?_
          rintro e w6 ⟨y2, hy2, _, _, rfl, hc6, hg6⟩
          have hy3 := hy2 (by omega)
          have HJ2 : Hid (cs.length = k2 ∧ cs.all condB = true ∧ Blk w6 X [v0, v1, .int .i64 ac, .int .i64 da] 47 ∧ Blk w6 w.heap.size [.slice none 0 0, .slice none 0 0, .int .i64 0, .int .i64 0] 47 ∧ w6.ownsRow (X + 1) 3 1 v0 k (zs.map (Value.int .i64)) ∧ w6.ownsRow B2 27 6 v1 k2 (flatC cs) ∧ Cur w6 p a len cap ∧ w.grownBy w6 (some p) ∧ B2 ≤ w6.heap.size) := by
            obtain ⟨h1, h2, h3, h4, h5, h6, h7, h8, h9⟩ := HI2.out
            exact ⟨h1, h2, h3.grownP hg6 hXp, h4.grownP hg6 (by omega), own_grown4 h5 hg6 (by omega), own_grown4 h6 hg6 HB2.out.2.1, hc6, grown_trans h8 hg6, Nat.le_trans h9 hg6.size⟩
          clear hc6 hg6 HI2 hy2
          by_cases hlt2 : k2 < y2
          · have bk2 : (k2 : Int) < (y2 : Int) := by omega
            have hk1 : k2 ≤ 1 := by omega
            have HV : Hid (∀ x, v1.ownBlock = some x → x < w6.heap.size) := fun x hx => (own_lt9 HJ2.out.2.2.2.2.2.1 hx).2
            go_wp2_with fail
            refine' wp_region_looset_tail 7 5 (.inl _ :: .inl _ :: .inl _ :: .inr (fun v W => ∃ ag mh ml cm vh vl : Int, condB ⟨ag, mh, ml, cm, vh, vl⟩ = true ∧ v = .agg #[.int .i64 ag, .int .i64 mh, .int .i64 ml, .int .i64 cm, .int .i64 vh, .int .i64 vl]) :: .inr (fun v W => ∃ (h : Nat) (ag mh ml cm vh vl : Int), condB ⟨ag, mh, ml, cm, vh, vl⟩ = true ∧ v = .slice (some ⟨h, 0, none⟩) 1 1 ∧ w6.heap.size ≤ h ∧ Blk W h [.int .i64 ag, .int .i64 mh, .int .i64 ml, .int .i64 cm, .int .i64 vh, .int .i64 vl] 27) :: .inr (fun v W => ∃ (g cap' : Nat) (ag mh ml cm vh vl : Int), condB ⟨ag, mh, ml, cm, vh, vl⟩ = true ∧ v = .slice (some ⟨g, 0, none⟩) (k2 + 1) cap' ∧ W.ownsRow B2 27 6 (.slice (some ⟨g, 0, none⟩) (k2 + 1) cap') (k2 + 1) (flatC cs ++ [.int .i64 ag, .int .i64 mh, .int .i64 ml, .int .i64 cm, .int .i64 vh, .int .i64 vl])) :: .inl _ :: []) (fun b W => (Cur W p a len cap ∧ w.grownBy W (some p) ∧ Blk W w.heap.size [.slice none 0 0, .slice none 0 0, .int .i64 0, .int .i64 0] 47 ∧ Blk W X [v0, v1, .int .i64 ac, .int .i64 da] 47 ∧ W.ownsRow (X + 1) 3 1 v0 k (zs.map (Value.int .i64)) ∧ w6.heap.size ≤ W.heap.size) ∧ (b = false → W.ownsRow B2 27 6 v1 k2 (flatC cs))) (fun j W W' => (j = 5 → W.grownBy W' v1.ownBlock) ∧ (j ≠ 5 → W.grownBy W' (some p))) (by kernel_rfl) (by kernel_rfl) (⟨⟨HJ2.out.2.2.2.2.2.2.1, grown_drew1 HJ2.out.2.2.2.2.2.2.2.1, HJ2.out.2.2.2.1, HJ2.out.2.2.1, HJ2.out.2.2.2.2.1, Nat.le_refl _⟩, fun _ => HJ2.out.2.2.2.2.2.1⟩) (by decide) (fun h => by cases h) ?hAy ?hly ?hMy
            case' hMy => skip
            simp only [List.take_succ_cons, List.take_zero, List.drop_succ_cons, List.drop_zero]
            apply wpLooseT_val rfl rfl (by decide)
            case hs =>
              intro b1 w1 hC hd Q1 hQ1
              dsimp only [bare]
              have q1 := hC.1.2.2.2.1.cell 1 _ rfl
              clear hd
              have HCC : Hid _ := hC
              clear hC
              go_wp2
              exact ⟨HCC.out, ⟨fun h => by omega, fun _ => grown_refl _ _⟩⟩
            case ha => rfl
            apply wpLooseT_val rfl rfl (by decide)
            case hs =>
              intro b1 w1 hC hd Q1 hQ1
              dsimp only [bare]
              have q1 := hC.1.2.2.2.1.cell 1 _ rfl
              clear hd
              have HCC : Hid _ := hC
              clear hC
              go_wp2
              exact ⟨HCC.out, ⟨fun h => by omega, fun _ => grown_refl _ _⟩⟩
            case ha => rfl
            apply wpLooseT_val rfl rfl (by decide)
            case hs =>
              intro b1 w1 hC hd Q1 hQ1
              dsimp only [bare]
              have q1 := hC.1.2.2.2.1.cell 1 _ rfl
              clear hd
              have HCC : Hid _ := hC
              clear hC
              go_wp2
              exact ⟨HCC.out, ⟨fun h => by omega, fun _ => grown_refl _ _⟩⟩
            case ha => rfl
            refine wpLooseT_rel rfl rfl (by decide) ?_ (fun vy_3 => ?_)
            · intro b1 w1 hC hd Q1 hQ1
              dsimp only [bare]
              clear hd
              have HCC : Hid _ := hC
              have HQ : Hid _ := hQ1
              clear hC hQ1
              go_wp2_with fail
              refine (cond_any p a len cap _ HCC.out.1.1).mono ?_
              rintro e w7 ⟨ag, mh, ml, cm, vh, vl, hcb, rfl, hc7, hg7⟩
              go_wp2_with fail
              obtain ⟨⟨h1, h2, h3, h4, h5, h6⟩, h7⟩ := HCC.out
              exact HQ.out _ _ ⟨⟨⟨hc7, grown_trans h2 hg7, h3.grownP hg7 (by omega), h4.grownP hg7 hXp, own_grown4 h5 hg7 (by omega), Nat.le_trans h6 hg7.size⟩, fun hb => own_grown4 (h7 hb) hg7 HB2.out.2.1⟩, ⟨fun h => by omega, fun _ => hg7⟩, ag, mh, ml, cm, vh, vl, hcb, rfl⟩
            refine wpLooseT_rel rfl rfl (by decide) ?_ (fun vy_4 => ?_)
            · intro b1 w1 hC hd Q1 hQ1
              dsimp only [bare]
              have h3 : ∃ ag mh ml cm vh vl : Int, condB ⟨ag, mh, ml, cm, vh, vl⟩ = true ∧ vy_3 = .agg #[.int .i64 ag, .int .i64 mh, .int .i64 ml, .int .i64 cm, .int .i64 vh, .int .i64 vl] := hd ⟨3, .data⟩ (by simp) rfl _ rfl (by simp [Act.put])
              clear hd
              obtain ⟨ag, mh, ml, cm, vh, vl, hcb, rfl⟩ := h3
              have HCC : Hid _ := hC
              have HQ : Hid _ := hQ1
              have HCB : Hid _ := hcb
              clear hC hQ1 hcb
              go_wp2_with fail
              obtain ⟨⟨h1, h2, h3, h4, h5, h6⟩, h7⟩ := HCC.out
              exact HQ.out _ _ ⟨⟨⟨h1.alloc _, grown_alloc h2 _, h3.alloc _, h4.alloc _, own_below h5 (Ext.one _ _), by simp; omega⟩, fun hb => own_below (h7 hb) (Ext.one _ _)⟩, ⟨fun h => by omega, fun _ => grown_alloc (grown_refl _ _) _⟩, w1.heap.size, ag, mh, ml, cm, vh, vl, HCB.out, rfl, h6, Blk.new _ _ _⟩
            refine wpLooseT_spec rfl rfl (by decide) ?_ (fun vy_5 => ?_)
            · intro w1 hC hd Q1 hQ1
              dsimp only [bare]
              have h4 : ∃ (h : Nat) (ag mh ml cm vh vl : Int), condB ⟨ag, mh, ml, cm, vh, vl⟩ = true ∧ vy_4 = .slice (some ⟨h, 0, none⟩) 1 1 ∧ w6.heap.size ≤ h ∧ Blk w1 h [.int .i64 ag, .int .i64 mh, .int .i64 ml, .int .i64 cm, .int .i64 vh, .int .i64 vl] 27 := hd ⟨4, .data⟩ (by simp) rfl _ rfl (by simp [Act.put])
              clear hd
              obtain ⟨h, ag, mh, ml, cm, vh, vl, hcb, rfl, hh6, hblk⟩ := h4
              have HCC : Hid _ := hC
              have HQ : Hid _ := hQ1
              have HCB : Hid _ := hcb
              have HBK : Hid (Blk w1 h [.int .i64 ag, .int .i64 mh, .int .i64 ml, .int .i64 cm, .int .i64 vh, .int .i64 vl] 27 ∧ w6.heap.size ≤ h ∧ B2 ≤ w1.heap.size) := ⟨hblk, hh6, by have := HJ2.out.2.2.2.2.2.2.2.2; have := HCC.out.1.2.2.2.2.2; omega⟩
              clear hC hQ1 hcb hblk hh6
              go_wp2_with (at_builtin; refine wpList_append_lies _ rfl _ _ 45 rfl B2 27 j0 (.agg #[.int .i64 0, .int .i64 0, .int .i64 0, .int .i64 0, .int .i64 0, .int .i64 0]) 6 48 Tryd.underlying45 ji jz0 jz1 jz2 rfl (by decide) _ _ _ rfl (HCC.out.2 rfl) ⟨h, 0, none⟩ 1 1 [.int .i64 ag, .int .i64 mh, .int .i64 ml, .int .i64 cm, .int .i64 vh, .int .i64 vl] rfl rfl ?c1 ?c2 (by omega) ?c3 ?c4 ?c5 w1.heap.size rfl ?_)
              case c1 => exact fun j u hu => HBK.out.1.cell j u hu
              case c2 => simp [Value.oneCell']
              case c3 => unfold maxLen; omega
              case c4 => omega
              case c5 => exact HBK.out.2.2
              intro g cap' w5 hown5 hgrow5 hat5 hlt5
              obtain ⟨⟨h1, h2, h3, h4, h5, h6⟩, h7⟩ := HCC.out
              have hv1 : ∀ x, v1.ownBlock = some x → B2 ≤ x := fun x hx => (own_lt9 (h7 (by simp)) hx).1
              have hX1 : some X ≠ v1.ownBlock := fun e => by have := hv1 X e.symm; have := HB2.out.1; omega
              have hR1 : some w.heap.size ≠ v1.ownBlock := fun e => by have := hv1 _ e.symm; have := HB2.out.1; omega
              have hP1 : v1.ownBlock ≠ some p := fun e => by have := hv1 _ e; have := HB2.out.2.1; omega
              have hO5 : w5.ownsRow (X + 1) 3 1 v0 k (zs.map (Value.int .i64)) := h5.kept hgrow5 (by cases hv0 : v0.ownBlock with | none => exact .inl rfl | some x => exact .inr (fun e => by have := hv1 x e.symm; have := HB2.out.2.2 x hv0; omega))
              go_wp2_with fail
              exact HQ.out _ _ ⟨⟨⟨h1.kept hgrow5 hP1 (fun b off e hl => fun e2 => by have := hv1 _ e2; have := HC.out.code b off e hl; have := HB2.out.1; omega), grown_own h2 hgrow5 (fun x hx => by have := hv1 x hx; have := HB2.out.1; omega), h3.grown hgrow5 hR1, h4.grown hgrow5 hX1, hO5, Nat.le_trans h6 hgrow5.size⟩, fun hb => by cases hb⟩, ⟨fun _ => hgrow5, fun h => by omega⟩, g, cap', ag, mh, ml, cm, vh, vl, HCB.out, rfl, hown5⟩
            apply wpLooseT_val rfl rfl (by decide)
            case hs =>
              intro b1 w1 hC hd Q1 hQ1
              dsimp only [bare]
              have q1 := hC.1.2.2.2.1.cell 1 _ rfl
              clear hd
              have HCC : Hid _ := hC
              clear hC
              go_wp2
              exact ⟨HCC.out, ⟨fun h => by omega, fun _ => grown_refl _ _⟩⟩
            case ha => rfl
            refine wpLooseT_nil ?_
            intro wy hCy hFy
            obtain ⟨⟨h1, h2, h3, h4, h5, h6⟩, _⟩ := hCy
            obtain ⟨g, cap', ag, mh, ml, cm, vh, vl, hcb, rfl, hown⟩ := (hFy 5 _ rfl (by decide) (by simp) : ∃ (g cap' : Nat) (ag mh ml cm vh vl : Int), condB ⟨ag, mh, ml, cm, vh, vl⟩ = true ∧ vy_5 = .slice (some ⟨g, 0, none⟩) (k2 + 1) cap' ∧ wy.ownsRow B2 27 6 (.slice (some ⟨g, 0, none⟩) (k2 + 1) cap') (k2 + 1) (flatC cs ++ [.int .i64 ag, .int .i64 mh, .int .i64 ml, .int .i64 cm, .int .i64 vh, .int .i64 vl]))
            have e9 := flatC_push cs ⟨ag, mh, ml, cm, vh, vl⟩
            have HK2 : Hid ((cs ++ ([⟨ag, mh, ml, cm, vh, vl⟩] : List CN)).length = k2 + 1 ∧ (cs ++ ([⟨ag, mh, ml, cm, vh, vl⟩] : List CN)).all condB = true ∧ Blk wy X [v0, v1, .int .i64 ac, .int .i64 da] 47 ∧ Blk wy w.heap.size [.slice none 0 0, .slice none 0 0, .int .i64 0, .int .i64 0] 47 ∧ wy.ownsRow (X + 1) 3 1 v0 k (zs.map (Value.int .i64)) ∧ wy.ownsRow B2 27 6 (.slice (some ⟨g, 0, none⟩) (k2 + 1) cap') (k2 + 1) (flatC (cs ++ ([⟨ag, mh, ml, cm, vh, vl⟩] : List CN))) ∧ Cur wy p a len cap ∧ w.grownBy wy (some p) ∧ B2 ≤ wy.heap.size) := by
              refine ⟨by simp [HJ2.out.1], by simp [HJ2.out.2.1, hcb], h4, h3, h5, ?_, h1, h2, by have := HJ2.out.2.2.2.2.2.2.2.2; omega⟩
              rw [← e9]
              exact hown
            have q1 := h4.cell 1 _ rfl
            have fX := h4.free
            clear h1 h2 h3 h4 h5 h6 hown e9 hcb hFy HJ2 HV
            try simp only [Act.put]
            go_wp2
            go_roundw
            case rel =>
              obtain ⟨h1, h2, h3, h4, h5, h6, h7, h8, h9⟩ := HK2.out
              exact ⟨k2 + 1, _, _, by go_num, by omega, h1, h2, h3.set 1 _, h4.other (by omega) _ _, ownsRow_setCell_below h5 (by show X < X + 1; omega) _, ownsRow_setCell_below h6 (by show X < B2; exact HB2.out.1) _, h7.store HC.out (by omega) _ _, grown_store h8 (by omega) _ _, by rw [World.size_setCell]; exact h9⟩
            case measure => simp [intOf]; omega
            case hAy => kernel_rfl
            case hly => exact ⟨trivial, trivial, trivial, fun _ _ _ _ _ h _ => h, fun i hi v W W' ⟨h, ag, mh, ml, cm, vh, vl, e1, e2, e3, e4⟩ hT => ⟨h, ag, mh, ml, cm, vh, vl, e1, e2, e3, by by_cases h5 : i = 5; exact e4.grown (hT.1 h5) (fun e => by have := HV.out h e.symm; omega); exact e4.grownP (hT.2 h5) (by have := HJ2.out.2.2.2.2.2.2.1.lt; omega)⟩, fun i hi v W W' ⟨g, cap', ag, mh, ml, cm, vh, vl, e1, e2, e3⟩ hT => ⟨g, cap', ag, mh, ml, cm, vh, vl, e1, e2, own_grown4 e3 (hT.2 hi) HB2.out.2.1⟩, trivial, trivial⟩
          · have bk2 : ¬ ((k2 : Int) < (y2 : Int)) := by omega
            obtain ⟨h1, h2, h3, h4, h5, h6, h7, h8, h9⟩ := HJ2.out
            obtain ⟨a1, c1, rfl, hz, hf1⟩ := own_nums h5 (by have := HI.out.1; exact this)
            have HKC : Hid (k ≤ c1) := own_capM h5
            obtain ⟨a2, c2, rfl, hq, hf2⟩ := own_conds h6 h1
            have HRN : Hid (RuleN (X + 1) w6 ⟨zs, cs, ac, da⟩ [.slice a1 k c1, .slice a2 k2 c2, .int .i64 ac, .int .i64 da]) :=
              ⟨a1, k, c1, a2, k2, c2, rfl, HI.out.1.symm, h1.symm, hz, hq, hf1, fun b o s e => ⟨by have := (hf2 b o s e).1; have := HB2.out.1; omega, (hf2 b o s e).2⟩⟩
            have HRB : Hid (ruleB ⟨zs, cs, ac, da⟩ = true ∧ Small ⟨zs, cs, ac, da⟩) := by
              have e1 : numsB zs = true := HI.out.2.2.1.ok (by have := HI.out.1; omega)
              have e2 : condsB cs = true := by unfold condsB; rw [h2, decide_eq_true (by omega)]; rfl
              refine ⟨?_, by have := HI.out.1; show zs.length ≤ _; omega, by show cs.length ≤ _; omega⟩
              rw [ruleB_if, HO.out, e1, e2]
              rfl
            have HCG : Hid (Cur w6 p a len cap ∧ w.grownBy w6 (some p)) := ⟨h7, h8⟩
            obtain ⟨q0, q1, q2, q3, s0, s1, s2, s3⟩ := (⟨h3.cell 0 _ rfl, h3.cell 1 _ rfl, h3.cell 2 _ rfl, h3.cell 3 _ rfl, h4.cell 0 _ rfl, h4.cell 1 _ rfl, h4.cell 2 _ rfl, h4.cell 3 _ rfl⟩ : _ ∧ _ ∧ _ ∧ _ ∧ _ ∧ _ ∧ _ ∧ _)
            have fR := h4.free
            have hR := h4.lt
            clear h1 h2 h3 h4 h5 h6 h7 h8 h9 hz hf1 hq hf2 HJ2 HI HS3 HB2
            go_wp2
            refine bodyPost_ret (v := .agg #[.slice a1 k c1, .slice a2 k2 c2, .int .i64 ac, .int .i64 da]) (by simp [results, Tryd.results43, go_sem, *]) rfl ?_
            refine ⟨⟨zs, cs, ac, da⟩, a1, k, c1, a2, k2, c2, ac, da, HRB.out.1, HRB.out.2, rfl, ?_, ?_, ?_⟩
            · exact ⟨((((HRN.out.set (by omega) _ _).set (by omega) _ _).set (by omega) _ _).set (by omega) _ _).mono (by omega), HKC.out⟩
            · exact (((HCG.out.1.store HC.out (by omega) _ _).store HC.out (by omega) _ _).store HC.out (by omega) _ _).store HC.out (by omega) _ _
            · exact grown_store (grown_store (grown_store (grown_store HCG.out.2 (by omega) _ _) (by omega) _ _) (by omega) _ _) (by omega) _ _
  · have h2' : (ac == 2) = false := by simpa using h2
    obtain ⟨da, hda⟩ : ∃ da : Int, da = 0 := ⟨0, rfl⟩
    have hx2 : Blk (w1.alloc (.cells #[.slice none 0 0, .slice none 0 0, .int .i64 ac, .int .i64 0] 47)) X [.slice none 0 0, .slice none 0 0, .int .i64 ac, .int .i64 da] 47 := by rw [hX, hda]; exact Blk.new _ _ _
    have hr2 := r1.alloc (.cells #[.slice none 0 0, .slice none 0 0, .int .i64 ac, .int .i64 0] 47)
    have hc2 := HC1.out.alloc (.cells #[.slice none 0 0, .slice none 0 0, .int .i64 ac, .int .i64 0] 47)
    have g2 := grown_alloc g1 (.cells #[.slice none 0 0, .slice none 0 0, .int .i64 ac, .int .i64 0] 47)
    have HO : Hid (outB ac da = true) := by unfold Hid outB; rw [hda, inB_true4.2 hact]; rfl
    clear hda HC1 r1 g1 hs1 hp1
    go_wp2_with fail
    rw [← hX]
    clear hX
    generalize w1.alloc (.cells #[.slice none 0 0, .slice none 0 0, .int .i64 ac, .int .i64 0] 47) = w2 at *
    have hp2 := hc2.lt
    have hX2 := hx2.lt
    go_wp2_with fail
    refine (below_any 4 p a len cap _ hc2 (by omega)).mono ?_
    rintro e w3 ⟨xn, hxn, _, _, rfl, hc3, hg3⟩
    have hx3 := hx2.grownP hg3 hXp
    have hr3 := hr2.grownP hg3 (by omega)
    have g3 := grown_trans g2 hg3
    have hxn4 := hxn (by omega)
    have HS3 : Hid (Cur w3 p a len cap ∧ w.grownBy w3 (some p) ∧ Blk w3 w.heap.size [.slice none 0 0, .slice none 0 0, .int .i64 0, .int .i64 0] 47 ∧ Blk w3 X [.slice none 0 0, .slice none 0 0, .int .i64 ac, .int .i64 da] 47) := ⟨hc3, g3, hr3, hx3⟩
    clear hc3 hg3 hx3 hr3 g3 hxn hx2 hr2 hc2 g2 hp2
    obtain ⟨N, hN⟩ : ∃ N : Int, N = (xn : Int) - 1 := ⟨_, rfl⟩
    have hN3 : N ≤ 2 := by omega
    go_wp2_with fail
    rw [← hN]
    clear hN hxn4
    go_loopw [5, 6] (fun av i wr => ∃ (k at' : Nat) (zs : List Int) (v0 : Value), i = .int .i64 k ∧ av = .int .i64 at' ∧ k ≤ 3 ∧ Hid (zs.length = k ∧ (0 < k → (k : Int) ≤ N) ∧ Up zs at' ∧ Blk wr X [v0, .slice none 0 0, .int .i64 ac, .int .i64 da] 47 ∧ Blk wr w.heap.size [.slice none 0 0, .slice none 0 0, .int .i64 0, .int .i64 0] 47 ∧ wr.ownsRow (X + 1) 3 1 v0 k (zs.map (Value.int .i64)) ∧ Cur wr p a len cap ∧ w.grownBy wr (some p))) (fun _ i _ => 4 - (intOf i).toNat)
    case atStart => exact ⟨0, 0, [], _, rfl, rfl, by omega, rfl, by omega, ⟨rfl, fun h => by simp at h, by simp⟩, HS3.out.2.2.2, HS3.out.2.2.1, ⟨rfl, .inl ⟨rfl, rfl⟩⟩, HS3.out.1, HS3.out.2.1⟩
    case round =>
      obtain ⟨k, at', zs, v0, rfl, rfl, hk, HI⟩ := hrel
      by_cases hlt : (k : Int) < N
      · have hk2 : k < 2 := by omega
        have hat : at' ≤ 9 := by have := HI.out.2.2.1.2.2; have := HI.out.1; omega
        go_wp2_with fail
        refine (below_any 3 p a len cap _ HI.out.2.2.2.2.2.2.1 (by omega)).mono ?_
        rintro e w4 ⟨y, hy, _, _, rfl, hc4, hg4⟩
        have hy3 := hy (by omega)
        have HJ : Hid (zs.length = k ∧ Up zs at' ∧ Blk w4 X [v0, .slice none 0 0, .int .i64 ac, .int .i64 da] 47 ∧ Blk w4 w.heap.size [.slice none 0 0, .slice none 0 0, .int .i64 0, .int .i64 0] 47 ∧ w4.ownsRow (X + 1) 3 1 v0 k (zs.map (Value.int .i64)) ∧ Cur w4 p a len cap ∧ w.grownBy w4 (some p)) := by
          obtain ⟨h1, h2, h3, h4, h5, h6, h7, h8⟩ := HI.out
          exact ⟨h1, h3, h4.grownP hg4 hXp, h5.grownP hg4 (by omega), own_grown4 h6 hg4 (by omega), hc4, grown_trans h8 hg4⟩
        have q0 := HJ.out.2.2.1.cell 0 _ rfl
        have fX := HJ.out.2.2.1.free
        have hX4 := HJ.out.2.2.1.lt
        have HY : Hid ((at' : Int) + 1 + (y : Int) - 1 = (at' : Int) + (y : Int)) := by unfold Hid; omega
        have HZ : Hid (((at' + 1 + y : Nat) : Int) = (at' : Int) + 1 + (y : Int)) := by unfold Hid; omega
        clear hc4 hg4 HI hy HS3
        go_wp2_with (at_builtin; refine wpList_append_lies _ rfl _ _ 44 rfl (X + 1) 3 i0 (.int .i64 0) 1 8 Tryd.underlying44 hi hz0 hz1 hz2 rfl (by decide) _ _ _ rfl (HJ.out.2.2.2.2.1.alloc _) ⟨w4.heap.size, 0, none⟩ 1 1 [.int .i64 ((at' : Int) + 1 + (y : Int) - 1)] rfl rfl ?c1 ?c2 (by omega) ?c3 ?c4 ?c5 (w4.heap.size + 1) (by simp) ?_)
        case c1 => exact World.news_of_block (B := w4.heap.size) (cs := #[.int .i64 ((at' : Int) + 1 + (y : Int) - 1)]) (t := 3) (fr := (0, 0)) (by have := Blk.new w4 [.int .i64 ((at' : Int) + 1 + (y : Int) - 1)] 3; simpa [Blk] using this)
        case c2 => simp [Value.oneCell']
        case c3 => unfold maxLen; omega
        case c4 => omega
        case c5 => simp; omega
        intro g cap' w5 hown5 hgrow5 hat5 hlt5
        have HK : Hid ((zs ++ [(at' : Int) + (y : Int)]).length = k + 1 ∧ Up (zs ++ [(at' : Int) + (y : Int)]) (at' + 1 + y) ∧ Blk w5 X [v0, .slice none 0 0, .int .i64 ac, .int .i64 da] 47 ∧ Blk w5 w.heap.size [.slice none 0 0, .slice none 0 0, .int .i64 0, .int .i64 0] 47 ∧ w5.ownsRow (X + 1) 3 1 (.slice (some ⟨g, 0, none⟩) (k + 1) cap') (k + 1) ((zs ++ [(at' : Int) + (y : Int)]).map (Value.int .i64)) ∧ Cur w5 p a len cap ∧ w.grownBy w5 (some p)) := by
          obtain ⟨h1, h3, h4, h5, h6, h7, h8⟩ := HJ.out
          refine ⟨by simp [h1], h3.push hy3 (by omega), (h4.alloc _).grown hgrow5 (own_ne h6 (by omega)), (h5.alloc _).grown hgrow5 (own_ne h6 (by omega)), ?_, (h7.alloc _).kept hgrow5 (Ne.symm (own_ne h6 (by omega))) (fun b off e hl => Ne.symm (own_ne h6 (by have := HC.out.code b off e hl; omega))), grown_own (grown_alloc h8 _) hgrow5 (fun x hx => by have := own_ge4 h6 hx; omega)⟩
          rw [HY.out] at hown5
          rw [List.map_append]
          exact hown5
        have fX5 := HK.out.2.2.1.free
        have cX5 := HK.out.2.2.1.cell 0 _ rfl
        have hlN : (((k + 1 : Nat) : Int)) ≤ N := by omega
        have HLN : Hid (((k + 1 : Nat) : Int) ≤ N) := hlN
        clear hown5 hgrow5 hat5 HJ q0 fX hlN
        go_wp2
        go_roundw
        case rel =>
          obtain ⟨h1, h3, h4, h5, h6, h7, h8⟩ := HK.out
          exact ⟨k + 1, at' + 1 + y, zs ++ [(at' : Int) + (y : Int)], _, by go_num, by rw [HZ.out], by omega, h1, fun _ => HLN.out, h3, h4.set 0 _, h5.other (by omega) _ _, ownsRow_setCell_below h6 (by show X < X + 1; omega) _, h7.store HC.out (by omega) _ _, grown_store h8 (by omega) _ _⟩
        case measure => simp [intOf]; omega
      · have hk3 : k ≤ 2 := by
          by_cases h0 : 0 < k
          · have := HI.out.2.1 h0; omega
          · omega
        obtain ⟨B2, hB2⟩ : ∃ B2, B2 = wr.heap.size := ⟨_, rfl⟩
        have HB2 : Hid (X < B2 ∧ p < B2 ∧ ∀ x, v0.ownBlock = some x → x < B2) := ⟨by have := HI.out.2.2.2.1.lt; omega, by have := HI.out.2.2.2.2.2.2.1.lt; omega, fun x hx => by have := own_lt9 HI.out.2.2.2.2.2.1 hx; omega⟩
        have HB3 : Hid (B2 = wr.heap.size) := hB2
        clear hB2
        go_wp2_with fail
        rename World => wL
        go_loopw [7] (fun i wr => ∃ (k2 : Nat) (cs : List CN) (v1 : Value), i = .int .i64 k2 ∧ k2 ≤ 2 ∧ Hid (cs.length = k2 ∧ cs.all condB = true ∧ Blk wr X [v0, v1, .int .i64 ac, .int .i64 da] 47 ∧ Blk wr w.heap.size [.slice none 0 0, .slice none 0 0, .int .i64 0, .int .i64 0] 47 ∧ wr.ownsRow (X + 1) 3 1 v0 k (zs.map (Value.int .i64)) ∧ wr.ownsRow B2 27 6 v1 k2 (flatC cs) ∧ Cur wr p a len cap ∧ w.grownBy wr (some p) ∧ B2 ≤ wr.heap.size)) (fun i _ => 3 - (intOf i).toNat)
        case atStart => exact ⟨0, [], _, rfl, by omega, rfl, rfl, HI.out.2.2.2.1, HI.out.2.2.2.2.1, HI.out.2.2.2.2.2.1, ⟨rfl, .inl ⟨rfl, rfl⟩⟩, HI.out.2.2.2.2.2.2.1, HI.out.2.2.2.2.2.2.2, by rw [HB3.out]; exact Nat.le_refl _⟩
        case round =>
          obtain ⟨k2, cs, v1, rfl, hk2, HI2⟩ := hrel
          go_wp2_with fail
          refine (below_any 3 p a len cap _ HI2.out.2.2.2.2.2.2.1 (by omega)).mono ?_
          rintro e w6 ⟨y2, hy2, _, _, rfl, hc6, hg6⟩
          have hy3 := hy2 (by omega)
          have HJ2 : Hid (cs.length = k2 ∧ cs.all condB = true ∧ Blk w6 X [v0, v1, .int .i64 ac, .int .i64 da] 47 ∧ Blk w6 w.heap.size [.slice none 0 0, .slice none 0 0, .int .i64 0, .int .i64 0] 47 ∧ w6.ownsRow (X + 1) 3 1 v0 k (zs.map (Value.int .i64)) ∧ w6.ownsRow B2 27 6 v1 k2 (flatC cs) ∧ Cur w6 p a len cap ∧ w.grownBy w6 (some p) ∧ B2 ≤ w6.heap.size) := by
            obtain ⟨h1, h2, h3, h4, h5, h6, h7, h8, h9⟩ := HI2.out
            exact ⟨h1, h2, h3.grownP hg6 hXp, h4.grownP hg6 (by omega), own_grown4 h5 hg6 (by omega), own_grown4 h6 hg6 HB2.out.2.1, hc6, grown_trans h8 hg6, Nat.le_trans h9 hg6.size⟩
          clear hc6 hg6 HI2 hy2
          by_cases hlt2 : k2 < y2
          · have bk2 : (k2 : Int) < (y2 : Int) := by omega
            have hk1 : k2 ≤ 1 := by omega
            have HV : Hid (∀ x, v1.ownBlock = some x → x < w6.heap.size) := fun x hx => (own_lt9 HJ2.out.2.2.2.2.2.1 hx).2
            go_wp2_with fail
            refine' wp_region_looset_tail 7 5 (.inl _ :: .inl _ :: .inl _ :: .inr (fun v W => ∃ ag mh ml cm vh vl : Int, condB ⟨ag, mh, ml, cm, vh, vl⟩ = true ∧ v = .agg #[.int .i64 ag, .int .i64 mh, .int .i64 ml, .int .i64 cm, .int .i64 vh, .int .i64 vl]) :: .inr (fun v W => ∃ (h : Nat) (ag mh ml cm vh vl : Int), condB ⟨ag, mh, ml, cm, vh, vl⟩ = true ∧ v = .slice (some ⟨h, 0, none⟩) 1 1 ∧ w6.heap.size ≤ h ∧ Blk W h [.int .i64 ag, .int .i64 mh, .int .i64 ml, .int .i64 cm, .int .i64 vh, .int .i64 vl] 27) :: .inr (fun v W => ∃ (g cap' : Nat) (ag mh ml cm vh vl : Int), condB ⟨ag, mh, ml, cm, vh, vl⟩ = true ∧ v = .slice (some ⟨g, 0, none⟩) (k2 + 1) cap' ∧ W.ownsRow B2 27 6 (.slice (some ⟨g, 0, none⟩) (k2 + 1) cap') (k2 + 1) (flatC cs ++ [.int .i64 ag, .int .i64 mh, .int .i64 ml, .int .i64 cm, .int .i64 vh, .int .i64 vl])) :: .inl _ :: []) (fun b W => (Cur W p a len cap ∧ w.grownBy W (some p) ∧ Blk W w.heap.size [.slice none 0 0, .slice none 0 0, .int .i64 0, .int .i64 0] 47 ∧ Blk W X [v0, v1, .int .i64 ac, .int .i64 da] 47 ∧ W.ownsRow (X + 1) 3 1 v0 k (zs.map (Value.int .i64)) ∧ w6.heap.size ≤ W.heap.size) ∧ (b = false → W.ownsRow B2 27 6 v1 k2 (flatC cs))) (fun j W W' => (j = 5 → W.grownBy W' v1.ownBlock) ∧ (j ≠ 5 → W.grownBy W' (some p))) (by kernel_rfl) (by kernel_rfl) (⟨⟨HJ2.out.2.2.2.2.2.2.1, grown_drew1 HJ2.out.2.2.2.2.2.2.2.1, HJ2.out.2.2.2.1, HJ2.out.2.2.1, HJ2.out.2.2.2.2.1, Nat.le_refl _⟩, fun _ => HJ2.out.2.2.2.2.2.1⟩) (by decide) (fun h => by cases h) ?hAx ?hlx ?hMx
            case' hMx => skip
            simp only [List.take_succ_cons, List.take_zero, List.drop_succ_cons, List.drop_zero]
            apply wpLooseT_val rfl rfl (by decide)
            case hs =>
              intro b1 w1 hC hd Q1 hQ1
              dsimp only [bare]
              have q1 := hC.1.2.2.2.1.cell 1 _ rfl
              clear hd
              have HCC : Hid _ := hC
              clear hC
              go_wp2
              exact ⟨HCC.out, ⟨fun h => by omega, fun _ => grown_refl _ _⟩⟩
            case ha => rfl
            apply wpLooseT_val rfl rfl (by decide)
            case hs =>
              intro b1 w1 hC hd Q1 hQ1
              dsimp only [bare]
              have q1 := hC.1.2.2.2.1.cell 1 _ rfl
              clear hd
              have HCC : Hid _ := hC
              clear hC
              go_wp2
              exact ⟨HCC.out, ⟨fun h => by omega, fun _ => grown_refl _ _⟩⟩
            case ha => rfl
            apply wpLooseT_val rfl rfl (by decide)
            case hs =>
              intro b1 w1 hC hd Q1 hQ1
              dsimp only [bare]
              have q1 := hC.1.2.2.2.1.cell 1 _ rfl
              clear hd
              have HCC : Hid _ := hC
              clear hC
              go_wp2
              exact ⟨HCC.out, ⟨fun h => by omega, fun _ => grown_refl _ _⟩⟩
            case ha => rfl
            refine wpLooseT_rel rfl rfl (by decide) ?_ (fun vx_3 => ?_)
            · intro b1 w1 hC hd Q1 hQ1
              dsimp only [bare]
              clear hd
              have HCC : Hid _ := hC
              have HQ : Hid _ := hQ1
              clear hC hQ1
              go_wp2_with fail
              refine (cond_any p a len cap _ HCC.out.1.1).mono ?_
              rintro e w7 ⟨ag, mh, ml, cm, vh, vl, hcb, rfl, hc7, hg7⟩
              go_wp2_with fail
              obtain ⟨⟨h1, h2, h3, h4, h5, h6⟩, h7⟩ := HCC.out
              exact HQ.out _ _ ⟨⟨⟨hc7, grown_trans h2 hg7, h3.grownP hg7 (by omega), h4.grownP hg7 hXp, own_grown4 h5 hg7 (by omega), Nat.le_trans h6 hg7.size⟩, fun hb => own_grown4 (h7 hb) hg7 HB2.out.2.1⟩, ⟨fun h => by omega, fun _ => hg7⟩, ag, mh, ml, cm, vh, vl, hcb, rfl⟩
            refine wpLooseT_rel rfl rfl (by decide) ?_ (fun vx_4 => ?_)
            · intro b1 w1 hC hd Q1 hQ1
              dsimp only [bare]
              have h3 : ∃ ag mh ml cm vh vl : Int, condB ⟨ag, mh, ml, cm, vh, vl⟩ = true ∧ vx_3 = .agg #[.int .i64 ag, .int .i64 mh, .int .i64 ml, .int .i64 cm, .int .i64 vh, .int .i64 vl] := hd ⟨3, .data⟩ (by simp) rfl _ rfl (by simp [Act.put])
              clear hd
              obtain ⟨ag, mh, ml, cm, vh, vl, hcb, rfl⟩ := h3
              have HCC : Hid _ := hC
              have HQ : Hid _ := hQ1
              have HCB : Hid _ := hcb
              clear hC hQ1 hcb
              go_wp2_with fail
              obtain ⟨⟨h1, h2, h3, h4, h5, h6⟩, h7⟩ := HCC.out
              exact HQ.out _ _ ⟨⟨⟨h1.alloc _, grown_alloc h2 _, h3.alloc _, h4.alloc _, own_below h5 (Ext.one _ _), by simp; omega⟩, fun hb => own_below (h7 hb) (Ext.one _ _)⟩, ⟨fun h => by omega, fun _ => grown_alloc (grown_refl _ _) _⟩, w1.heap.size, ag, mh, ml, cm, vh, vl, HCB.out, rfl, h6, Blk.new _ _ _⟩
            refine wpLooseT_spec rfl rfl (by decide) ?_ (fun vx_5 => ?_)
            · intro w1 hC hd Q1 hQ1
              dsimp only [bare]
              have h4 : ∃ (h : Nat) (ag mh ml cm vh vl : Int), condB ⟨ag, mh, ml, cm, vh, vl⟩ = true ∧ vx_4 = .slice (some ⟨h, 0, none⟩) 1 1 ∧ w6.heap.size ≤ h ∧ Blk w1 h [.int .i64 ag, .int .i64 mh, .int .i64 ml, .int .i64 cm, .int .i64 vh, .int .i64 vl] 27 := hd ⟨4, .data⟩ (by simp) rfl _ rfl (by simp [Act.put])
              clear hd
              obtain ⟨h, ag, mh, ml, cm, vh, vl, hcb, rfl, hh6, hblk⟩ := h4
              have HCC : Hid _ := hC
              have HQ : Hid _ := hQ1
              have HCB : Hid _ := hcb
              have HBK : Hid (Blk w1 h [.int .i64 ag, .int .i64 mh, .int .i64 ml, .int .i64 cm, .int .i64 vh, .int .i64 vl] 27 ∧ w6.heap.size ≤ h ∧ B2 ≤ w1.heap.size) := ⟨hblk, hh6, by have := HJ2.out.2.2.2.2.2.2.2.2; have := HCC.out.1.2.2.2.2.2; omega⟩
              clear hC hQ1 hcb hblk hh6
              go_wp2_with (at_builtin; refine wpList_append_lies _ rfl _ _ 45 rfl B2 27 j0 (.agg #[.int .i64 0, .int .i64 0, .int .i64 0, .int .i64 0, .int .i64 0, .int .i64 0]) 6 48 Tryd.underlying45 ji jz0 jz1 jz2 rfl (by decide) _ _ _ rfl (HCC.out.2 rfl) ⟨h, 0, none⟩ 1 1 [.int .i64 ag, .int .i64 mh, .int .i64 ml, .int .i64 cm, .int .i64 vh, .int .i64 vl] rfl rfl ?c1 ?c2 (by omega) ?c3 ?c4 ?c5 w1.heap.size rfl ?_)
              case c1 => exact fun j u hu => HBK.out.1.cell j u hu
              case c2 => simp [Value.oneCell']
              case c3 => unfold maxLen; omega
              case c4 => omega
              case c5 => exact HBK.out.2.2
              intro g cap' w5 hown5 hgrow5 hat5 hlt5
              obtain ⟨⟨h1, h2, h3, h4, h5, h6⟩, h7⟩ := HCC.out
              have hv1 : ∀ x, v1.ownBlock = some x → B2 ≤ x := fun x hx => (own_lt9 (h7 (by simp)) hx).1
              have hX1 : some X ≠ v1.ownBlock := fun e => by have := hv1 X e.symm; have := HB2.out.1; omega
              have hR1 : some w.heap.size ≠ v1.ownBlock := fun e => by have := hv1 _ e.symm; have := HB2.out.1; omega
              have hP1 : v1.ownBlock ≠ some p := fun e => by have := hv1 _ e; have := HB2.out.2.1; omega
              have hO5 : w5.ownsRow (X + 1) 3 1 v0 k (zs.map (Value.int .i64)) := h5.kept hgrow5 (by cases hv0 : v0.ownBlock with | none => exact .inl rfl | some x => exact .inr (fun e => by have := hv1 x e.symm; have := HB2.out.2.2 x hv0; omega))
              go_wp2_with fail
              exact HQ.out _ _ ⟨⟨⟨h1.kept hgrow5 hP1 (fun b off e hl => fun e2 => by have := hv1 _ e2; have := HC.out.code b off e hl; have := HB2.out.1; omega), grown_own h2 hgrow5 (fun x hx => by have := hv1 x hx; have := HB2.out.1; omega), h3.grown hgrow5 hR1, h4.grown hgrow5 hX1, hO5, Nat.le_trans h6 hgrow5.size⟩, fun hb => by cases hb⟩, ⟨fun _ => hgrow5, fun h => by omega⟩, g, cap', ag, mh, ml, cm, vh, vl, HCB.out, rfl, hown5⟩
            apply wpLooseT_val rfl rfl (by decide)
            case hs =>
              intro b1 w1 hC hd Q1 hQ1
              dsimp only [bare]
              have q1 := hC.1.2.2.2.1.cell 1 _ rfl
              clear hd
              have HCC : Hid _ := hC
              clear hC
              go_wp2
              exact ⟨HCC.out, ⟨fun h => by omega, fun _ => grown_refl _ _⟩⟩
            case ha => rfl
            refine wpLooseT_nil ?_
            intro wx hCx hFx
            obtain ⟨⟨h1, h2, h3, h4, h5, h6⟩, _⟩ := hCx
            obtain ⟨g, cap', ag, mh, ml, cm, vh, vl, hcb, rfl, hown⟩ := (hFx 5 _ rfl (by decide) (by simp) : ∃ (g cap' : Nat) (ag mh ml cm vh vl : Int), condB ⟨ag, mh, ml, cm, vh, vl⟩ = true ∧ vx_5 = .slice (some ⟨g, 0, none⟩) (k2 + 1) cap' ∧ wx.ownsRow B2 27 6 (.slice (some ⟨g, 0, none⟩) (k2 + 1) cap') (k2 + 1) (flatC cs ++ [.int .i64 ag, .int .i64 mh, .int .i64 ml, .int .i64 cm, .int .i64 vh, .int .i64 vl]))
            have e9 := flatC_push cs ⟨ag, mh, ml, cm, vh, vl⟩
            have HK2 : Hid ((cs ++ ([⟨ag, mh, ml, cm, vh, vl⟩] : List CN)).length = k2 + 1 ∧ (cs ++ ([⟨ag, mh, ml, cm, vh, vl⟩] : List CN)).all condB = true ∧ Blk wx X [v0, v1, .int .i64 ac, .int .i64 da] 47 ∧ Blk wx w.heap.size [.slice none 0 0, .slice none 0 0, .int .i64 0, .int .i64 0] 47 ∧ wx.ownsRow (X + 1) 3 1 v0 k (zs.map (Value.int .i64)) ∧ wx.ownsRow B2 27 6 (.slice (some ⟨g, 0, none⟩) (k2 + 1) cap') (k2 + 1) (flatC (cs ++ ([⟨ag, mh, ml, cm, vh, vl⟩] : List CN))) ∧ Cur wx p a len cap ∧ w.grownBy wx (some p) ∧ B2 ≤ wx.heap.size) := by
              refine ⟨by simp [HJ2.out.1], by simp [HJ2.out.2.1, hcb], h4, h3, h5, ?_, h1, h2, by have := HJ2.out.2.2.2.2.2.2.2.2; omega⟩
              rw [← e9]
              exact hown
            have q1 := h4.cell 1 _ rfl
            have fX := h4.free
            clear h1 h2 h3 h4 h5 h6 hown e9 hcb hFx HJ2 HV
            try simp only [Act.put]
            go_wp2
            go_roundw
            case rel =>
              obtain ⟨h1, h2, h3, h4, h5, h6, h7, h8, h9⟩ := HK2.out
              exact ⟨k2 + 1, _, _, by go_num, by omega, h1, h2, h3.set 1 _, h4.other (by omega) _ _, ownsRow_setCell_below h5 (by show X < X + 1; omega) _, ownsRow_setCell_below h6 (by show X < B2; exact HB2.out.1) _, h7.store HC.out (by omega) _ _, grown_store h8 (by omega) _ _, by rw [World.size_setCell]; exact h9⟩
            case measure => simp [intOf]; omega
            case hAx => kernel_rfl
            case hlx => exact ⟨trivial, trivial, trivial, fun _ _ _ _ _ h _ => h, fun i hi v W W' ⟨h, ag, mh, ml, cm, vh, vl, e1, e2, e3, e4⟩ hT => ⟨h, ag, mh, ml, cm, vh, vl, e1, e2, e3, by by_cases h5 : i = 5; exact e4.grown (hT.1 h5) (fun e => by have := HV.out h e.symm; omega); exact e4.grownP (hT.2 h5) (by have := HJ2.out.2.2.2.2.2.2.1.lt; omega)⟩, fun i hi v W W' ⟨g, cap', ag, mh, ml, cm, vh, vl, e1, e2, e3⟩ hT => ⟨g, cap', ag, mh, ml, cm, vh, vl, e1, e2, own_grown4 e3 (hT.2 hi) HB2.out.2.1⟩, trivial, trivial⟩
          · have bk2 : ¬ ((k2 : Int) < (y2 : Int)) := by omega
            obtain ⟨h1, h2, h3, h4, h5, h6, h7, h8, h9⟩ := HJ2.out
            obtain ⟨a1, c1, rfl, hz, hf1⟩ := own_nums h5 (by have := HI.out.1; exact this)
            have HKC : Hid (k ≤ c1) := own_capM h5
            obtain ⟨a2, c2, rfl, hq, hf2⟩ := own_conds h6 h1
            have HRN : Hid (RuleN (X + 1) w6 ⟨zs, cs, ac, da⟩ [.slice a1 k c1, .slice a2 k2 c2, .int .i64 ac, .int .i64 da]) :=
              ⟨a1, k, c1, a2, k2, c2, rfl, HI.out.1.symm, h1.symm, hz, hq, hf1, fun b o s e => ⟨by have := (hf2 b o s e).1; have := HB2.out.1; omega, (hf2 b o s e).2⟩⟩
            have HRB : Hid (ruleB ⟨zs, cs, ac, da⟩ = true ∧ Small ⟨zs, cs, ac, da⟩) := by
              have e1 : numsB zs = true := HI.out.2.2.1.ok (by have := HI.out.1; omega)
              have e2 : condsB cs = true := by unfold condsB; rw [h2, decide_eq_true (by omega)]; rfl
              refine ⟨?_, by have := HI.out.1; show zs.length ≤ _; omega, by show cs.length ≤ _; omega⟩
              rw [ruleB_if, HO.out, e1, e2]
              rfl
            have HCG : Hid (Cur w6 p a len cap ∧ w.grownBy w6 (some p)) := ⟨h7, h8⟩
            obtain ⟨q0, q1, q2, q3, s0, s1, s2, s3⟩ := (⟨h3.cell 0 _ rfl, h3.cell 1 _ rfl, h3.cell 2 _ rfl, h3.cell 3 _ rfl, h4.cell 0 _ rfl, h4.cell 1 _ rfl, h4.cell 2 _ rfl, h4.cell 3 _ rfl⟩ : _ ∧ _ ∧ _ ∧ _ ∧ _ ∧ _ ∧ _ ∧ _)
            have fR := h4.free
            have hR := h4.lt
            clear h1 h2 h3 h4 h5 h6 h7 h8 h9 hz hf1 hq hf2 HJ2 HI HS3 HB2
            go_wp2
            refine bodyPost_ret (v := .agg #[.slice a1 k c1, .slice a2 k2 c2, .int .i64 ac, .int .i64 da]) (by simp [results, Tryd.results43, go_sem, *]) rfl ?_
            refine ⟨⟨zs, cs, ac, da⟩, a1, k, c1, a2, k2, c2, ac, da, HRB.out.1, HRB.out.2, rfl, ?_, ?_, ?_⟩
            · exact ⟨((((HRN.out.set (by omega) _ _).set (by omega) _ _).set (by omega) _ _).set (by omega) _ _).mono (by omega), HKC.out⟩
            · exact (((HCG.out.1.store HC.out (by omega) _ _).store HC.out (by omega) _ _).store HC.out (by omega) _ _).store HC.out (by omega) _ _
            · exact grown_store (grown_store (grown_store (grown_store HCG.out.2 (by omega) _ _) (by omega) _ _) (by omega) _ _) (by omega) _ _

theorem Wides.grown {w w' : World} {b off : Nat} {ws : List (Int × Int)} {row : Option Nat} (h : Wides w (some ⟨b, off, none⟩) ws) (hg : w.grownBy w' row) (hr : some b ≠ row) : Wides w' (some ⟨b, off, none⟩) ws := fun hp => by
  obtain ⟨b', off', ha, hb, hc⟩ := h hp
  injection ha with ha
  injection ha with h1 h2 h3
  subst h1 h2
  refine ⟨b, off, rfl, Nat.lt_of_lt_of_le hb hg.size, fun j hj => ?_⟩
  obtain ⟨e1, e2⟩ := hc j hj
  exact ⟨(hg.cell_far ⟨b, off + j * 2, none⟩ hb hr).trans e1, (hg.cell_far ⟨b, off + j * 2 + 1, none⟩ hb hr).trans e2⟩

end Go.Proofs.YthflflhcbnianaaDoor
