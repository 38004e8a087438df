/- What DrawSignsOf answers: a text of at most 1300 bytes. -/
import Derived.Test.YtfhkafbcopolcaaDoorDrawSigns
namespace Go.Proofs.YtfhkafbcopolcaaDoor
open Go.RowKit
set_option linter.unusedVariables false

theorem len_txt (l : List UInt8) : (txt l).size = l.length := by show l.toArray.size = _; simp

set_option maxRecDepth 100000 in
set_option maxHeartbeats 2000000 in
theorem drawSignsOf_any (a : Option Addr) (len cap : Nat) (w : World) (hC : Came w a len) :
    Calls Tryd.prog 9 #[.slice a len cap] w fun e w' => ∃ t : ByteArray, t.size ≤ 1300 ∧ e = .returned (.string t) ∧ Ext w w' := by
  go_enter Tryd.func9, Tryd.ntmps9
  go_wp2_with fail
  refine (new_any a len cap _ hC).mono ?_
  rintro e w1 ⟨rfl, hc1, hb1⟩
  have HB1 : Hid (Ext w w1) := hb1
  clear hC hb1
  go_wp2_with fail
  refine (below_any 6 _ a len cap _ hc1 (by omega)).mono ?_
  rintro e w2 ⟨x, hx, _, _, rfl, hc2, hg2⟩
  have hx6 := hx (by omega)
  have HB2 : Hid (Ext w w2) := below_new HB1.out hg2
  have HC2 : Hid (Cur w2 w.heap.size a len cap) := hc2
  clear hc1 hg2 hc2 hx HB1
  go_wp2_with fail
  refine (signs_any _ a len cap _ HC2.out).mono ?_
  rintro e w3 ⟨v, ps, rfl, hs, hl, hown, hc3, hg3⟩
  have HB3 : Hid (Ext w w3) := below_new HB2.out hg3
  have HC3 : Hid (Cur w3 w.heap.size a len cap) := hc3
  obtain ⟨av, cv, rfl, hsg, _⟩ := Own3.signs hown
  have HS : Hid (Signs w3 av ps ∧ ps.length ≤ 8 ∧ ∀ s ∈ ps, SgR s) := ⟨hsg, hl, hs⟩
  have hTL : (textN ps ps.length).length ≤ 104 := by have := textR_len ps hs ps.length (Nat.le_refl _); omega
  obtain ⟨L, hL⟩ : ∃ L, L = textN ps ps.length := ⟨_, rfl⟩
  have ST : Hid (Calls Tryd.prog 18 #[.slice av ps.length cv] w3 fun e w' => e = .returned (.string (txt L)) ∧ Ext w3 w') := by
    rw [hL]
    refine sText_any av cv ps w3 (by omega) hsg (fun k hk => ?_) (fun s hp => ?_)
    · have := textR_len ps hs k hk; omega
    · rcases hs s hp with h | h | h
      · rw [h.2.1]; omega
      · have := h.2.2.2; omega
      · rw [h.2.1]; omega
  rw [← hL] at hTL
  obtain ⟨m, hm⟩ : ∃ m, m = ps.length := ⟨_, rfl⟩
  rw [← hm] at ST ⊢
  clear hL hs hsg hown hc3 hg3 HC2 HB2 hl HS hm
  go_wp2_with fail
  refine ST.out.mono ?_
  rintro e w4 ⟨rfl, e4⟩
  have HB4 : Hid (Ext w w4) := HB3.out.trans e4
  have HC4 : Hid (Cur w4 w.heap.size a len cap) := HC3.out.kept (row := none) (ext_grown e4 _) (by simp) (fun _ _ _ _ => by simp)
  have hp4 : w.heap.size < w4.heap.size := HC4.out.lt
  clear e4 HB3 HC3 ST
  have h6 : x = 0 ∨ x = 1 ∨ x = 2 ∨ (x = 3 ∨ x = 4 ∨ x = 5) := by omega
  clear hx6
  rcases h6 with rfl | rfl | rfl | h6
  · have A : ∀ (t : List UInt8), t.length ≤ 13 → ∀ wx, (Op.stringOp .add (txt L) (txt t)).run Tryd.prog wx = .ok (.string (txt (L ++ t))) wx := fun t ht wx => add_txt wx L t (by omega)
    obtain ⟨X, hX⟩ : ∃ X, X = txt L := ⟨_, rfl⟩
    rw [← hX] at A ⊢
    clear hX
    go_wp2_with fail
    refine (pickS_list [[65], [61], [33], [9], [52, 50, 57, 52, 57, 54, 55, 50, 57, 54], [49, 50, 51, 52, 53, 54, 55, 56, 57, 48, 49], [97, 98, 99, 100, 101, 102, 103, 104, 105, 106, 107, 108, 109]] w4.heap.size w.heap.size a len cap _ (HC4.out.alloc _) (Blk.new _ _ _) (by omega) (by simp) (by simp)).mono ?_
    rintro e w5 ⟨t, ht, rfl, hc5, hg5⟩
    have HB : Hid (Ext w w5) := below_new (HB4.out.alloc _) hg5
    have ht13 : t.length ≤ 13 := by
      have key : ∀ t ∈ ([[65], [61], [33], [9], [52, 50, 57, 52, 57, 54, 55, 50, 57, 54], [49, 50, 51, 52, 53, 54, 55, 56, 57, 48, 49], [97, 98, 99, 100, 101, 102, 103, 104, 105, 106, 107, 108, 109]] : List (List UInt8)), t.length ≤ 13 := by decide
      exact key t ht
    have A1 := A t ht13
    obtain ⟨Y, hY⟩ : ∃ Y, Y = txt t := ⟨_, rfl⟩
    obtain ⟨Z, hZ⟩ : ∃ Z, Z = txt (L ++ t) := ⟨_, rfl⟩
    rw [← hY, ← hZ] at A1
    rw [← hY]
    have HZ : Hid (Z.size ≤ 1300) := by unfold Hid; rw [hZ, len_txt, List.length_append]; omega
    clear hc5 hg5 ht hY hZ A ht13
    go_wp2
    go_ret
    exact ⟨Z, HZ.out, rfl, HB.out⟩
  · have A1 : ∀ wx, (Op.stringOp .add ⟨#[32, 32]⟩ (txt L)).run Tryd.prog wx = .ok (.string (txt ([32, 32] ++ L))) wx := fun wx => add_txt wx [32, 32] L (by simp; omega)
    have A2 : ∀ wx, (Op.stringOp .add (txt ([32, 32] ++ L)) ⟨#[10]⟩).run Tryd.prog wx = .ok (.string (txt (([32, 32] ++ L) ++ [10]))) wx := fun wx => add_txt wx ([32, 32] ++ L) [10] (by simp; omega)
    obtain ⟨X, hX⟩ : ∃ X, X = txt L := ⟨_, rfl⟩
    obtain ⟨Y, hY⟩ : ∃ Y, Y = txt ([32, 32] ++ L) := ⟨_, rfl⟩
    obtain ⟨Z, hZ⟩ : ∃ Z, Z = txt (([32, 32] ++ L) ++ [10]) := ⟨_, rfl⟩
    rw [← hX, ← hY] at A1
    rw [← hY, ← hZ] at A2
    rw [← hX]
    have HZ : Hid (Z.size ≤ 1300) := by unfold Hid; rw [hZ, len_txt]; simp; omega
    clear hX hY hZ
    go_wp2
    go_ret
    exact ⟨Z, HZ.out, rfl, HB4.out⟩
  · go_wp2_with fail
    refine (below_any 2 _ a len cap _ HC4.out (by omega)).mono ?_
    rintro e w5 ⟨y, hy, _, _, rfl, hc5, hg5⟩
    have hy2 := hy (by omega)
    have HB5 : Hid (Ext w w5) := below_new HB4.out hg5
    have LG : Hid (Calls Tryd.prog 28 #[.int .i64 (1200 + (y : Int)), .int .u8 32] w5 fun e w' => e = .returned (.string ⟨(List.replicate (1200 + y) (UInt8.ofNat 32)).toArray⟩) ∧ Below w5.heap.size w5 w') := long_any (1200 + y) 32 w5 (by omega) (by omega)
    obtain ⟨Z, hZ⟩ : ∃ Z : ByteArray, Z = ⟨(List.replicate (1200 + y) (UInt8.ofNat 32)).toArray⟩ := ⟨_, rfl⟩
    rw [← hZ] at LG
    have HZ : Hid (Z.size ≤ 1300) := by unfold Hid; rw [hZ]; show (List.replicate (1200 + y) (UInt8.ofNat 32)).toArray.size ≤ _; simp; omega
    clear hc5 hg5 hZ hy
    go_wp2_with fail
    refine LG.out.mono ?_
    rintro e w6 ⟨rfl, e6⟩
    have HB6 : Hid (Ext w w6) := HB5.out.trans e6
    clear e6 LG
    go_wp2
    go_ret
    exact ⟨Z, HZ.out, rfl, HB6.out⟩
  · obtain ⟨X, hX⟩ : ∃ X, X = txt L := ⟨_, rfl⟩
    rw [← hX]
    have HZ : Hid (X.size ≤ 1300) := by unfold Hid; rw [hX, len_txt]; omega
    clear hX
    rcases h6 with rfl | rfl | rfl
    all_goals
      go_wp2
      go_ret
      exact ⟨X, HZ.out, rfl, HB4.out⟩

end Go.Proofs.YtfhkafbcopolcaaDoor
