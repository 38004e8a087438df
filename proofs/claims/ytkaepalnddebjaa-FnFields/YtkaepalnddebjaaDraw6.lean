/- What the draws of a place, of a call and a place, of a call and of a half answer. -/
import Derived.Test.YtkaepalnddebjaaDraw5
namespace Go.Proofs.Ytkaepalnddebjaa
open Go.RowKit
set_option linter.unusedVariables false

theorem place_any (p : Nat) (a : Option Addr) (len cap : Nat) (w : World) (hC : Cur w p a len cap) :
    Calls Try.prog 35 #[.pointer (some ⟨p, 0, none⟩), .int .i64 7] w fun e w' => ∃ z : Int, e = .returned (.int .i64 z) ∧ Cur w' p a len cap ∧ w.grownBy w' (some p) := by
  have HC : Hid (Cur w p a len cap) := hC
  clear hC
  go_enter Try.func35, Try.ntmps35
  go_wp2_with fail
  refine (once_any 15 p a len cap _ HC.out (by omega)).mono ?_
  rintro e w1 ⟨b, rfl, hc1, hg1⟩
  have hp1 := hc1.lt
  have HC1 : Hid (Cur w1 p a len cap ∧ w.grownBy w1 (some p)) := ⟨hc1, hg1⟩
  clear hc1 hg1
  cases b
  · go_wp2_with fail
    refine (below_any 7 p a len cap _ HC1.out.1 (by omega)).mono ?_
    rintro e w2 ⟨z, _, _, _, rfl, hc2, hg2⟩
    have HG : Hid (Cur w2 p a len cap ∧ w.grownBy w2 (some p)) := ⟨hc2, grown_trans HC1.out.2 hg2⟩
    clear hc2 hg2
    go_wp2
    go_ret
    exact ⟨z, rfl, HG.out⟩
  · go_wp2_with fail
    refine (pick_list [-1, 7, 8, 9223372036854775807, -9223372036854775808] _ p a len cap _ (HC1.out.1.alloc _) (Blk.new _ _ _) (by omega) (by simp) (by simp)).mono ?_
    rintro e w2 ⟨z, _, rfl, hc2, hg2⟩
    have HG : Hid (Cur w2 p a len cap ∧ w.grownBy w2 (some p)) := ⟨hc2, grown_trans (grown_alloc HC1.out.2 _) hg2⟩
    clear hc2 hg2
    go_wp2
    go_ret
    exact ⟨z, rfl, HG.out⟩

theorem drawHalf_any (a : Option Addr) (len cap : Nat) (w : World) (hC : Came w a len) :
    Calls Try.prog 23 #[.slice a len cap] w fun e w' => ∃ z : Int, e = .returned (.int .i64 z) ∧ Ext w w' := by
  have HC : Hid (Came w a len) := hC
  clear hC
  go_enter Try.func23, Try.ntmps23
  go_wp2_with fail
  refine (new_any a len cap _ HC.out).mono ?_
  rintro e w1 ⟨rfl, hc1, hb1⟩
  have hp1 := hc1.lt
  have HC1 : Hid (Cur w1 w.heap.size a len cap ∧ Ext w w1) := ⟨hc1, hb1⟩
  clear hc1 hb1
  go_wp2_with fail
  refine (pick_list [0, 1, 4294967295, 4294967296, -1] _ w.heap.size a len cap _ (HC1.out.1.alloc _) (Blk.new _ _ _) (by omega) (by simp) (by simp)).mono ?_
  rintro e w2 ⟨z, _, rfl, hc2, hg2⟩
  have HB : Hid (Below w.heap.size w w2) := (HC1.out.2.alloc _).grown hg2 (HC1.out.2.alloc _).size (fun k hk => by have := Option.some.inj hk; omega)
  clear hc2 hg2
  go_wp2
  go_ret
  exact ⟨z, rfl, HB.out⟩

set_option maxHeartbeats 1000000 in
theorem drawCallOk_any (a : Option Addr) (len cap : Nat) (w : World) (hC : Came w a len) :
    Calls Try.prog 22 #[.slice a len cap] w fun e w' => ∃ (arch num : Int) (ws : List (Int × Int)) (v : Value), ws.length ≤ 3 ∧ e = .returned v ∧ RepCall arch num ws v w' ∧ Ext w w' := by
  have HC : Hid (Came w a len) := hC
  clear hC
  go_enter Try.func22, Try.ntmps22
  go_wp2_with fail
  refine (new_any a len cap _ (HC.out.below (Ext.one _ _))).mono ?_
  rintro e w1 ⟨rfl, hc1, hb1⟩
  have r1 := (Blk.new w [.int .i64 0, .int .i64 0, .slice none 0 0] 26).ext hb1
  have HE : Hid (Ext w w1) := (Ext.one _ _).trans hb1
  have hs1 : w.heap.size + 1 < w1.heap.size := by have := hc1.lt; simpa using this
  have HC1 : Hid (Cur w1 (w.heap.size + 1) a len cap) := by simpa [Hid] using hc1
  clear hc1 hb1
  go_wp2_with fail
  refine (any_any (w.heap.size + 1) a len cap _ HC1.out).mono ?_
  rintro e w2 ⟨arch, num, ws, v, hlen, rfl, ⟨av, cv, rfl, _, hw, hf, hz⟩, hc2, hg2⟩
  have r2 := r1.grown hg2 (ne_some (by omega))
  have HB : Hid (Below w.heap.size w w2) := HE.out.grown hg2 HE.out.size (fun k hk => by have := Option.some.inj hk; omega)
  have HWV : Hid (Wides w2 av ws ∧ (∀ b off, av = some ⟨b, off, none⟩ → w1.heap.size ≤ b)) := ⟨hw, hf⟩
  obtain ⟨q4, q5, q6⟩ := (⟨r2.cell 0 _ rfl, r2.cell 1 _ rfl, r2.cell 2 _ rfl⟩ : _ ∧ _ ∧ _)
  have fR := r2.free
  have hlt := r2.lt
  clear hw hf hz hc2 hg2 r2 r1 HE
  go_wp2
  refine bodyPost_ret (v := .agg #[.int .i64 arch, .int .i64 num, .slice av ws.length cv]) (by simp [results, Try.results22, go_sem, *]) rfl ?_
  refine ⟨arch, num, ws, .agg #[.int .i64 arch, .int .i64 num, .slice av ws.length cv], hlen, rfl, ⟨av, cv, rfl, ?_⟩, ?_⟩
  · exact ((HWV.out.1.far (fun b off e => by have := HWV.out.2 b off e; omega) _ _).far (fun b off e => by have := HWV.out.2 b off e; omega) _ _).far (fun b off e => by have := HWV.out.2 b off e; omega) _ _
  · have hw := HB.out
    go_grown

set_option maxHeartbeats 1000000 in
theorem drawField_any (a : Option Addr) (len cap : Nat) (w : World) (hC : Came w a len) :
    Calls Try.prog 20 #[.slice a len cap] w fun e w' => ∃ (arch num : Int) (ws : List (Int × Int)) (v : Value) (t : Int), ws.length ≤ 3 ∧ e = .returned (.tuple #[v, .int .i64 t]) ∧ RepCall arch num ws v w' ∧ Ext w w' := by
  have HC : Hid (Came w a len) := hC
  clear hC
  go_enter Try.func20, Try.ntmps20
  go_wp2_with fail
  refine (new_any a len cap _ (HC.out.below (Ext.one _ _))).mono ?_
  rintro e w1 ⟨rfl, hc1, hb1⟩
  have r1 := (Blk.new w [.int .i64 0, .int .i64 0, .slice none 0 0] 26).ext hb1
  have HE : Hid (Ext w w1) := (Ext.one _ _).trans hb1
  have hs1 : w.heap.size + 1 < w1.heap.size := by have := hc1.lt; simpa using this
  have HC1 : Hid (Cur w1 (w.heap.size + 1) a len cap) := by simpa [Hid] using hc1
  clear hc1 hb1
  go_wp2_with fail
  refine (place_any (w.heap.size + 1) a len cap _ HC1.out).mono ?_
  rintro e wp ⟨t, rfl, hcp, hgp⟩
  have rp := r1.grown hgp (ne_some (by omega))
  have HBp : Hid (Below w.heap.size w wp) := HE.out.grown hgp HE.out.size (fun k hk => by have := Option.some.inj hk; omega)
  have HCp : Hid (Cur wp (w.heap.size + 1) a len cap) := hcp
  have hsp := hcp.lt
  clear hcp hgp r1
  go_wp2_with fail
  refine (any_any (w.heap.size + 1) a len cap _ HCp.out).mono ?_
  rintro e w2 ⟨arch, num, ws, v, hlen, rfl, ⟨av, cv, rfl, _, hw, hf, hz⟩, hc2, hg2⟩
  have r2 := rp.grown hg2 (ne_some (by omega))
  have HB : Hid (Below w.heap.size w w2) := HBp.out.grown hg2 HBp.out.size (fun k hk => by have := Option.some.inj hk; omega)
  have HWV : Hid (Wides w2 av ws ∧ (∀ b off, av = some ⟨b, off, none⟩ → wp.heap.size ≤ b)) := ⟨hw, hf⟩
  obtain ⟨q4, q5, q6⟩ := (⟨r2.cell 0 _ rfl, r2.cell 1 _ rfl, r2.cell 2 _ rfl⟩ : _ ∧ _ ∧ _)
  have fR := r2.free
  have hlt := r2.lt
  clear hw hf hz hc2 hg2 r2 rp HE HBp
  go_wp2
  refine bodyPost_ret (v := .tuple #[.agg #[.int .i64 arch, .int .i64 num, .slice av ws.length cv], .int .i64 t]) (by simp [results, Try.results20, go_sem, *]) rfl ?_
  refine ⟨arch, num, ws, .agg #[.int .i64 arch, .int .i64 num, .slice av ws.length cv], t, hlen, rfl, ⟨av, cv, rfl, ?_⟩, ?_⟩
  · exact ((HWV.out.1.far (fun b off e => by have := HWV.out.2 b off e; omega) _ _).far (fun b off e => by have := HWV.out.2 b off e; omega) _ _).far (fun b off e => by have := HWV.out.2 b off e; omega) _ _
  · have hw := HB.out
    go_grown

end Go.Proofs.Ytkaepalnddebjaa
