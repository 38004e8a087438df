/- What the draws of chapter 8 answer: right signs, texts. -/
import Derived.Test.YtfhkafbcopolcaaDoorBlks
import Derived.Test.YtfhkafbcopolcaaDoorSignTx2
import Derived.Test.YtfhkafbcopolcaaDoorSignBack
import Derived.Test.YtfhkafbcopolcaaDoorSignsS
namespace Go.Proofs.YtfhkafbcopolcaaDoor
open Go.RowKit
set_option linter.unusedVariables false

set_option maxRecDepth 100000 in
set_option maxHeartbeats 1000000 in
theorem pickS_at (ts : List (List UInt8)) (n q p : Nat) (a : Option Addr) (len cap : Nat) (w : World) (hC : Cur w p a len cap) (hqp : q ≠ p) (h0 : 0 < n) (hn : n ≤ 256)
    (hall : ∀ j, j < n → ∃ t ∈ ts, w.cell? ⟨q, j, none⟩ = some (.string (txt t))) :
    Calls Tryd.prog 27 #[.pointer (some ⟨p, 0, none⟩), .slice (some ⟨q, 0, none⟩) n n] w fun e w' => ∃ t ∈ ts, e = .returned (.string (txt t)) ∧ Cur w' p a len cap ∧ w.grownBy w' (some p) := by
  have HC : Hid (Cur w p a len cap) := hC
  have HA : Hid (∀ j, j < n → ∃ t ∈ ts, w.cell? ⟨q, j, none⟩ = some (.string (txt t))) := hall
  clear hC hall
  go_enter Tryd.func27, Tryd.ntmps27
  go_wp2_with fail
  refine (below_any n p a len cap _ HC.out (by omega)).mono ?_
  rintro e w1 ⟨x, hx, _, _, rfl, hc1, hg1⟩
  have hxn := hx h0
  obtain ⟨t, ht, hz⟩ := HA.out x hxn
  have hcell : w1.cell? ⟨q, x, none⟩ = some (.string (txt t)) := hg1.cell hz (ne_some hqp)
  have hxi : (x : Int) < (n : Int) := by omega
  obtain ⟨T, hT⟩ : ∃ T, T = txt t := ⟨_, rfl⟩
  rw [← hT] at hcell
  have HT : Hid (t ∈ ts ∧ T = txt t) := ⟨ht, hT⟩
  clear hx hz ht hT
  go_wp2
  go_ret
  exact ⟨t, HT.out.1, (by rw [← HT.out.2]; rfl), hc1, hg1⟩

theorem pickS_list (ts : List (List UInt8)) (q p : Nat) (a : Option Addr) (len cap : Nat) (w : World) (hC : Cur w p a len cap) (hq : Blk w q (ts.map fun t => Value.string (txt t)) 9) (hqp : q ≠ p) (h0 : 0 < ts.length) (hn : ts.length ≤ 256) :
    Calls Tryd.prog 27 #[.pointer (some ⟨p, 0, none⟩), .slice (some ⟨q, 0, none⟩) ts.length ts.length] w fun e w' => ∃ t ∈ ts, e = .returned (.string (txt t)) ∧ Cur w' p a len cap ∧ w.grownBy w' (some p) :=
  pickS_at ts ts.length q p a len cap w hC hqp h0 hn (fun j hj => ⟨ts[j], List.getElem_mem hj, hq.cell j _ (by simp [hj])⟩)

set_option maxRecDepth 100000 in
set_option maxHeartbeats 1000000 in
theorem half8_any (p : Nat) (a : Option Addr) (len cap : Nat) (w : World) (hC : Cur w p a len cap) :
    Calls Tryd.prog 48 #[.pointer (some ⟨p, 0, none⟩)] w fun e w' => ∃ z : Nat, z ≤ 4294967295 ∧ e = .returned (.int .i64 (z : Int)) ∧ Cur w' p a len cap ∧ w.grownBy w' (some p) := by
  have HC : Hid (Cur w p a len cap) := hC
  clear hC
  go_enter Tryd.func48, Tryd.ntmps48
  go_wp2_with fail
  refine (below_any 12 p a len cap _ HC.out (by omega)).mono ?_
  rintro e w1 ⟨x, hx, _, _, rfl, hc1, hg1⟩
  have hx12 := hx (by omega)
  have HP : Hid (p < w1.heap.size) := hc1.lt
  have HC1 : Hid (Cur w1 p a len cap) := hc1
  clear hc1 hx
  go_wp2_with fail
  refine (pick_list [0, 1, 2, 3, 5, 7, 255, 4294967295, 2147483648, (x : Int)] _ p a len cap _ (HC1.out.alloc _) (Blk.new _ _ _) (by have := HP.out; omega) (by simp) (by simp)).mono ?_
  rintro e w2 ⟨z, hz, rfl, hc2, hg2⟩
  have hh : 0 ≤ z ∧ z ≤ 4294967295 := by
    simp only [List.mem_cons, List.not_mem_nil, or_false] at hz
    omega
  have HG : Hid (w.grownBy w2 (some p)) := grown_trans (grown_alloc hg1 _) hg2
  clear hg1 hg2 hz
  go_wp2
  go_ret
  exact ⟨z.toNat, by omega, ret_int (by omega), hc2, HG.out⟩

theorem ext_grown {W W' : World} (h : Ext W W') (row : Option Nat) : W.grownBy W' row := ⟨h.os, h.tape, h.output, h.size, fun k hk _ => h.block k hk⟩

def set3 (W : World) (k : Nat) (x y z : Value) : World := ((W.setCell ⟨k, 0, none⟩ x).setCell ⟨k, 1, none⟩ y).setCell ⟨k, 2, none⟩ z

theorem Cur.store3 {w W : World} {p : Nat} {a : Option Addr} {len cap : Nat} (h : Cur W p a len cap) (h0 : Cur w p a len cap) {k : Nat} (hk : w.heap.size ≤ k) (x y z : Value) : Cur (set3 W k x y z) p a len cap :=
  ((h.store h0 hk 0 x).store h0 hk 1 y).store h0 hk 2 z

theorem grown_store3 {W W' : World} {row : Option Nat} (h : W.grownBy W' row) {k : Nat} (hk : W.heap.size ≤ k) (x y z : Value) : W.grownBy (set3 W' k x y z) row :=
  grown_store (grown_store (grown_store h hk 0 x) hk 1 y) hk 2 z

def wordsL : List (List UInt8) := [[111, 110], [100, 111], [114, 101, 97, 100], [97, 98, 99, 100, 101, 102, 103, 104, 105, 106, 107, 108], [105, 102]]

theorem words_right : ∀ t ∈ wordsL, 1 ≤ t.length ∧ t.length ≤ 12 ∧ ∀ b ∈ t, kindB b = 1 := by decide

def zero3 : List Value := [.int .i64 0, .string ⟨#[]⟩, .int .i64 0]

set_option maxRecDepth 100000 in
set_option maxHeartbeats 4000000 in
theorem drawnSign_any (p : Nat) (a : Option Addr) (len cap : Nat) (w : World) (hC : Cur w p a len cap) :
    Calls Tryd.prog 39 #[.pointer (some ⟨p, 0, none⟩)] w fun e w' => ∃ s : Sg, SgR s ∧ e = .returned (sgV s) ∧ Cur w' p a len cap ∧ w.grownBy w' (some p) := by
  have hp := hC.lt
  have HC : Hid (Cur w p a len cap) := hC
  clear hC
  go_enter Tryd.func39, Tryd.ntmps39
  go_wp2_with fail
  refine (below_any 3 p a len cap _ (HC.out.alloc _) (by omega)).mono ?_
  rintro e w1 ⟨x, hx, _, _, rfl, hc1, hg1⟩
  have hx3 := hx (by omega)
  have r1 := (Blk.new w zero3 44).grown hg1 (ne_some (by omega))
  have HG1 : Hid (w.grownBy w1 (some p)) := grown_trans (grown_alloc (grown_refl w _) _) hg1
  have HC1 : Hid (Cur w1 p a len cap) := hc1
  have hs1 := r1.lt
  have hp1 : p < w1.heap.size := hc1.lt
  clear hg1 hc1 hx
  have h3 : x = 0 ∨ x = 1 ∨ x = 2 := by omega
  clear hx3
  rcases h3 with rfl | rfl | rfl
  · go_wp2_with fail
    refine (pickS_list wordsL w1.heap.size p a len cap _ (HC1.out.alloc _) (Blk.new _ _ _) (by omega) (by decide) (by decide)).mono ?_
    rintro e w2 ⟨t, ht, rfl, hc2, hg2⟩
    have r2 := (r1.alloc (.cells (wordsL.map fun t => Value.string (txt t)).toArray 9)).grown hg2 (ne_some (by omega))
    have HG2 : Hid (w.grownBy w2 (some p)) := grown_trans (grown_alloc HG1.out _) hg2
    have HC2 : Hid (Cur w2 p a len cap) := hc2
    have HS : Hid (SgR (1, t, 0)) := .inl ⟨rfl, rfl, words_right t ht⟩
    obtain ⟨s0, s1, s2⟩ := (⟨r2.cell 0 _ rfl, r2.cell 1 _ rfl, r2.cell 2 _ rfl⟩ : _ ∧ _ ∧ _)
    have f2 := r2.free
    have hs2 := r2.lt
    clear hg2 hc2 r1 r2 HG1 HC1 ht
    obtain ⟨T, hT⟩ : ∃ T, T = txt t := ⟨_, rfl⟩
    rw [← hT]
    have HT : Hid (T = txt t) := hT
    clear hT
    go_wp2
    refine bodyPost_ret (v := .agg #[.int .i64 1, .string T, .int .i64 0]) (by simp [results, Tryd.results39, go_sem, *]) rfl ⟨(1, t, 0), HS.out, by unfold sgV; rw [HT.out], ?_, ?_⟩
    · exact HC2.out.store3 HC.out (Nat.le_refl _) _ _ _
    · exact grown_store3 HG2.out (Nat.le_refl _) _ _ _
  · go_wp2_with fail
    refine (half8_any p a len cap _ HC1.out).mono ?_
    rintro e w2 ⟨z, hz, rfl, hc2, hg2⟩
    have r2 := r1.grown hg2 (ne_some (by omega))
    have HG2 : Hid (w.grownBy w2 (some p)) := grown_trans HG1.out hg2
    have HC2 : Hid (Cur w2 p a len cap) := hc2
    have HS : Hid (SgR (2, [], (z : Int))) := .inr (.inl ⟨rfl, rfl, by simp, by simp only; omega⟩)
    obtain ⟨s0, s1, s2⟩ := (⟨r2.cell 0 _ rfl, r2.cell 1 _ rfl, r2.cell 2 _ rfl⟩ : _ ∧ _ ∧ _)
    have f2 := r2.free
    have hs2 := r2.lt
    clear hg2 hc2 r1 r2 HG1 HC1
    go_wp2
    refine bodyPost_ret (v := .agg #[.int .i64 2, .string ⟨#[]⟩, .int .i64 (z : Int)]) (by simp [results, Tryd.results39, go_sem, *]) rfl ⟨(2, [], (z : Int)), HS.out, rfl, ?_, ?_⟩
    · exact HC2.out.store3 HC.out (Nat.le_refl _) _ _ _
    · exact grown_store3 HG2.out (Nat.le_refl _) _ _ _
  · go_wp2_with fail
    refine (sMarks_any _).mono ?_
    rintro e wm ⟨g, rfl, hg, hrow, em⟩
    have HCm : Hid (Cur wm p a len cap) := HC1.out.kept (row := none) (ext_grown em _) (by simp) (fun _ _ _ _ => by simp)
    have rm := r1.ext em
    have HGm : Hid (w.grownBy wm (some p)) := grown_trans HG1.out (ext_grown em _)
    have HM : Hid (∀ j, j < 10 → ∃ t ∈ markL, wm.cell? ⟨g, j, none⟩ = some (.string (txt t))) := fun j hj => ⟨markL.getD j [], by have hj' : j < markL.length := hj; rw [List.getD_eq_getElem?_getD, List.getElem?_eq_getElem hj']; exact List.getElem_mem hj', mark_cell hrow j hj⟩
    clear hrow em r1 HG1 HC1
    go_wp2_with fail
    refine (pickS_at markL 10 g p a len cap _ HCm.out (by omega) (by omega) (by omega) HM.out).mono ?_
    rintro e w2 ⟨t, ht, rfl, hc2, hg2⟩
    have r2 := rm.grown hg2 (ne_some (by omega))
    have HG2 : Hid (w.grownBy w2 (some p)) := grown_trans HGm.out hg2
    have HC2 : Hid (Cur w2 p a len cap) := hc2
    have HS : Hid (SgR (3, t, 0)) := .inr (.inr ⟨rfl, rfl, isMark_of ht⟩)
    obtain ⟨s0, s1, s2⟩ := (⟨r2.cell 0 _ rfl, r2.cell 1 _ rfl, r2.cell 2 _ rfl⟩ : _ ∧ _ ∧ _)
    have f2 := r2.free
    have hs2 := r2.lt
    clear hg2 hc2 r2 rm HGm HCm HM ht
    obtain ⟨T, hT⟩ : ∃ T, T = txt t := ⟨_, rfl⟩
    rw [← hT]
    have HT : Hid (T = txt t) := hT
    clear hT
    go_wp2
    refine bodyPost_ret (v := .agg #[.int .i64 3, .string T, .int .i64 0]) (by simp [results, Tryd.results39, go_sem, *]) rfl ⟨(3, t, 0), HS.out, by unfold sgV; rw [HT.out], ?_, ?_⟩
    · exact HC2.out.store3 HC.out (Nat.le_refl _) _ _ _
    · exact grown_store3 HG2.out (Nat.le_refl _) _ _ _

end Go.Proofs.YtfhkafbcopolcaaDoor
