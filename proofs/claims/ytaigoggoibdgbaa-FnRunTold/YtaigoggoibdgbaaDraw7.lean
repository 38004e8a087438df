/- What chapter 7's draws give: programs right or not, with a call right or not. -/
import Derived.Test.YtaigoggoibdgbaaDrawAny
import Derived.Test.YtaigoggoibdgbaaDraw5
import Derived.Test.YtaigoggoibdgbaaSzRun
namespace Go.Proofs.Ytaigoggoibdgbaa
open Go.RowKit
set_option linter.unusedVariables false

theorem drawProg_any (a : Option Addr) (len cap : Nat) (w : World) (hC : Came w a len) :
    Calls Try.prog 9 #[.slice a len cap] w fun e w' => ∃ v ws, e = .returned v ∧ RepW ws v w' ∧ ws.all okW = true ∧ 2 ≤ ws.length ∧ ws.length ≤ 13 ∧ Ext w w' := by
  have HC : Hid (Came w a len) := hC
  clear hC
  go_enter Try.func9, Try.ntmps9
  go_wp2_with fail
  refine (new_any a len cap _ HC.out).mono ?_
  rintro e w1 ⟨rfl, hc1, hb1⟩
  have E1 : Hid (Ext w w1) := hb1
  have HC1 : Hid (Cur w1 w.heap.size a len cap) := hc1
  clear hc1 hb1
  go_wp2_with fail
  refine (prog_any w.heap.size a len cap _ HC1.out).mono ?_
  rintro e w2 ⟨v, ws, rfl, hown, hall, h2, h13, _, hg2⟩
  have HE : Hid (RepW ws v w2 ∧ ws.all okW = true ∧ 2 ≤ ws.length ∧ ws.length ≤ 13 ∧ Ext w w2) := by
    obtain ⟨aa, cc, hv, hc, hw, _⟩ := hown.words
    exact ⟨⟨aa, cc, hv, hc, hw⟩, hall, h2, h13, below_new E1.out hg2⟩
  clear hown hall h2 h13 hg2
  go_wp2
  go_ret
  exact ⟨v, ws, rfl, HE.out⟩

theorem repW_rows {w : World} {g n c : Nat} (h : Rows4 w g n) (hc : n ≤ c) : ∃ ws : List Wd, ws.length = n ∧ RepW ws (.slice (some ⟨g, 0, none⟩) n c) w := by
  obtain ⟨ws, hl, hw⟩ := h.words
  exact ⟨ws, hl, _, c, by rw [hl], by omega, hw⟩

theorem drawCheck_any (a : Option Addr) (len cap : Nat) (w : World) (hC : Came w a len) :
    Calls Try.prog 17 #[.slice a len cap] w fun e w' => ∃ v ws, e = .returned v ∧ RepW ws v w' ∧ ws.length ≤ 13 ∧ Ext w w' := by
  have HC : Hid (Came w a len) := hC
  clear hC
  go_enter Try.func17, Try.ntmps17
  go_wp2_with fail
  refine (new_any a len cap _ HC.out).mono ?_
  rintro e w1 ⟨rfl, hc1, hb1⟩
  have E1 : Hid (Ext w w1) := hb1
  have HC1 : Hid (Cur w1 w.heap.size a len cap) := hc1
  clear hc1 hb1
  go_wp2_with fail
  refine (any_any w.heap.size a len cap _ HC1.out).mono ?_
  rintro e w2 ⟨g, n, c, rfl, hn1, hn13, hnc, hrow, _, _, hg2⟩
  obtain ⟨ws, hwl, hws⟩ := repW_rows hrow hnc
  have HE : Hid (RepW ws (.slice (some ⟨g, 0, none⟩) n c) w2 ∧ ws.length ≤ 13 ∧ Ext w w2) := ⟨hws, by omega, below_new E1.out hg2⟩
  clear hwl hws hrow hg2 hnc
  go_wp2
  go_ret
  exact ⟨_, ws, rfl, HE.out⟩

theorem drawReached_any (a : Option Addr) (len cap : Nat) (w : World) (hC : Came w a len) :
    Calls Try.prog 18 #[.slice a len cap] w fun e w' => ∃ v ws, e = .returned v ∧ RepW ws v w' ∧ ws.length ≤ 13 ∧ Ext w w' := by
  have HC : Hid (Came w a len) := hC
  clear hC
  go_enter Try.func18, Try.ntmps18
  go_wp2_with fail
  refine (new_any a len cap _ HC.out).mono ?_
  rintro e w1 ⟨rfl, hc1, hb1⟩
  have E1 : Hid (Ext w w1) := hb1
  have HC1 : Hid (Cur w1 w.heap.size a len cap) := hc1
  clear hc1 hb1
  go_wp2_with fail
  refine (any_any w.heap.size a len cap _ HC1.out).mono ?_
  rintro e w2 ⟨g, n, c, rfl, hn1, hn13, hnc, hrow, _, _, hg2⟩
  obtain ⟨ws, hwl, hws⟩ := repW_rows hrow hnc
  have HE : Hid (RepW ws (.slice (some ⟨g, 0, none⟩) n c) w2 ∧ ws.length ≤ 13 ∧ Ext w w2) := ⟨hws, by omega, below_new E1.out hg2⟩
  clear hwl hws hrow hg2 hnc
  go_wp2
  go_ret
  exact ⟨_, ws, rfl, HE.out⟩

theorem rows4_grown {w w' : World} {g n k : Nat} (h : Rows4 w g n) (hg : w.grownBy w' (some k)) (hk : g ≠ k) : Rows4 w' g n := fun j hj => by
  obtain ⟨q, h⟩ := h j hj
  exact ⟨q, (hg.cell_far ⟨g, j * 4, none⟩ h.lt (ne_some hk)).trans h.1, (hg.cell_far ⟨g, j * 4 + 1, none⟩ h.lt (ne_some hk)).trans h.2.1, (hg.cell_far ⟨g, j * 4 + 2, none⟩ h.lt (ne_some hk)).trans h.2.2.1, (hg.cell_far ⟨g, j * 4 + 3, none⟩ h.lt (ne_some hk)).trans h.2.2.2⟩

theorem wides_grown {w w' : World} {a : Option Addr} {cs : List (Int × Int)} {k : Nat} (h : Wides w a cs) (hg : w.grownBy w' (some k)) (hk : ∀ b off, a = some ⟨b, off, none⟩ → b ≠ k) : Wides w' a cs := fun hp => by
  obtain ⟨b, off, rfl, _⟩ := h hp
  exact (h.grown hg (ne_some (hk b off rfl))) hp

set_option maxRecDepth 100000 in
set_option maxHeartbeats 2000000 in
theorem drawRun_any (a : Option Addr) (len cap : Nat) (w : World) (hC : Came w a len) :
    Calls Try.prog 15 #[.slice a len cap] w fun e w' => ∃ v1 v2 ws arch num cs, e = .returned (.tuple #[v1, v2]) ∧ RepW ws v1 w' ∧ ws.length ≤ 13 ∧ RepCall arch num cs v2 w' ∧ cs.length ≤ 3 ∧ Ext w w' := by
  have HC : Hid (Came w a len) := hC
  clear hC
  go_enter Try.func15, Try.ntmps15
  go_wp2_with fail
  refine (new_any a len cap _ (HC.out.below (Ext.one _ _))).mono ?_
  rintro e w1 ⟨rfl, hc1, hb1⟩
  have r1 := (Blk.new w [.int .i64 0, .int .i64 0, .slice none 0 0] 28).ext hb1
  have HE : Hid (Ext w w1) := (Ext.one _ _).trans hb1
  have hs1 : w.heap.size + 1 < w1.heap.size := by have := hc1.lt; simpa using this
  have HC1 : Hid (Cur w1 (w.heap.size + 1) a len cap) := by simpa [Hid] using hc1
  clear hc1 hb1
  go_wp2_with fail
  refine (any4_any (w.heap.size + 1) a len cap _ HC1.out).mono ?_
  rintro e w2 ⟨arch, num, cs, v, hlen, rfl, ⟨av, cv, rfl, _, hw, hf, hz⟩, hc2, hg2⟩
  have r2 := r1.grown hg2 (ne_some (by omega))
  have HB : Hid (Ext w w2) := HE.out.grown hg2 HE.out.size (fun k hk => by have := Option.some.inj hk; omega)
  have hs2 : w1.heap.size ≤ w2.heap.size := hg2.size
  have HWV : Hid (Wides w2 av cs ∧ (∀ b off, av = some ⟨b, off, none⟩ → w1.heap.size ≤ b)) := ⟨hw, hf⟩
  obtain ⟨W, hW⟩ : ∃ W, W = w2.alloc (.cells #[.int .i64 arch, .int .i64 num, .slice av cs.length cv] 28) := ⟨_, rfl⟩
  have CW : Hid (Cur W (w.heap.size + 1) a len cap) := by rw [hW]; exact hc2.alloc _
  have RW : Hid (Blk W w.heap.size [.int .i64 0, .int .i64 0, .slice none 0 0] 28) := by rw [hW]; exact r2.alloc _
  have XW : Hid (Blk W w2.heap.size [.int .i64 arch, .int .i64 num, .slice av cs.length cv] 28) := by rw [hW]; exact Blk.new w2 [.int .i64 arch, .int .i64 num, .slice av cs.length cv] 28
  have EW : Hid (Ext w W ∧ Ext w2 W) := by rw [hW]; exact ⟨HB.out.alloc _, Ext.one _ _⟩
  clear hw hf hz hc2 hg2 r2 r1 HE HC1 HC
  go_wp2_with fail
  rw [← hW]
  clear hW
  obtain ⟨q0, q1, q2⟩ := (⟨XW.out.cell 0 _ rfl, XW.out.cell 1 _ rfl, XW.out.cell 2 _ rfl⟩ : _ ∧ _ ∧ _)
  have HL : Hid (Calls Try.prog 44 #[.pointer (some ⟨w.heap.size + 1, 0, none⟩)] W.drew fun e w3 => ∃ g n c, e = .returned (.slice (some ⟨g, 0, none⟩) n c) ∧ Hid (n ≤ 13 ∧ n ≤ c ∧ Rows4 w3 g n ∧ W.heap.size ≤ g ∧ W.grownBy w3 (some (w.heap.size + 1))) ∧ Blk w3 w.heap.size [.int .i64 0, .int .i64 0, .slice none 0 0] 28 ∧ Blk w3 w2.heap.size [.int .i64 arch, .int .i64 num, .slice av cs.length cv] 28) := by
    refine (any_any (w.heap.size + 1) a len cap W.drew CW.out).mono ?_
    rintro e w3 ⟨g, n, c, rfl, hn1, hn13, hnc, hrow, hgw, _, hg3⟩
    have hg3' : W.grownBy w3 (some (w.heap.size + 1)) := ⟨hg3.os, hg3.tape, hg3.output, hg3.size, hg3.block⟩
    exact ⟨g, n, c, rfl, ⟨hn13, hnc, hrow, hgw, hg3'⟩, RW.out.grown hg3' (ne_some (by omega)), XW.out.grown hg3' (ne_some (by omega))⟩
  go_region_with (go_at_call 44; refine HL.out.mono ?_; rintro e w3 ⟨g, n, c, rfl, HX3, r3, x3⟩; obtain ⟨y0, y1, y2⟩ := (⟨x3.cell 0 _ rfl, x3.cell 1 _ rfl, x3.cell 2 _ rfl⟩ : _ ∧ _ ∧ _); obtain ⟨z0, z1, z2⟩ := (⟨r3.cell 0 _ rfl, r3.cell 1 _ rfl, r3.cell 2 _ rfl⟩ : _ ∧ _ ∧ _); have fr := r3.free)
  all_goals go_wp2
  all_goals
    refine bodyPost_ret (v := .tuple #[.slice (some ⟨g, 0, none⟩) n c, .agg #[.int .i64 arch, .int .i64 num, .slice av cs.length cv]]) (by simp [results, Try.results15, go_sem, *]) rfl ?_
    obtain ⟨hn13, hnc, hrow, hgW, hg3⟩ := HX3.out
    have hgF : w3.grownBy (((w3.setCell ⟨w.heap.size, 0, none⟩ (.int .i64 arch)).setCell ⟨w.heap.size, 1, none⟩ (.int .i64 num)).setCell ⟨w.heap.size, 2, none⟩ (.slice av cs.length cv)) (some w.heap.size) := grown_trans (grown_trans grown_set grown_set) grown_set
    have hE3 : Ext w w3 := Below.grown EW.out.1 hg3 EW.out.1.size (fun k hk => by have := Option.some.inj hk; omega)
    have hWs := EW.out.2.size
    obtain ⟨ws, hwl, hws⟩ := repW_rows (rows4_grown hrow hgF (by omega)) hnc
    refine ⟨_, _, ws, arch, num, cs, rfl, hws, by omega, ⟨av, cv, rfl, ?_⟩, hlen, Below.grown hE3 hgF hE3.size (fun k hk => by have := Option.some.inj hk; omega)⟩
    exact wides_grown (wides_grown (HWV.out.1.below EW.out.2 (Nat.le_refl _)) hg3 (fun b off e => by have := HWV.out.2 b off e; omega)) hgF (fun b off e => by have := HWV.out.2 b off e; omega)

end Go.Proofs.Ytaigoggoibdgbaa
