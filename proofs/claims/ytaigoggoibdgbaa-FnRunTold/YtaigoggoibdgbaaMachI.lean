/- The machine's own steps (impl): questions, ways, one word done. -/
import Derived.Test.YtaigoggoibdgbaaRunMath
import Derived.Test.YtaigoggoibdgbaaCheckIS
import Derived.Test.YtaigoggoibdgbaaCallRep
import Derived.BigQuiet
import Derived.Deep.QuietTactic
namespace Go.Proofs.Ytaigoggoibdgbaa
open Go.RowKit
set_option linter.unusedVariables false

theorem grown_ext {w w' : World} (h : Ext w w') (row : Option Nat) : w.grownBy w' row := ⟨h.os, h.tape, h.output, h.size, fun k hk _ => h.block k hk⟩

/-- The machine lies in block g: its register, its place, the words done. -/
def Mach (w : World) (g : Nat) (r i s : Int) : Prop := Blk w g [.int .i64 r, .int .i64 i, .int .i64 s] 65

set_option maxHeartbeats 1600000 in
theorem holds_any (g : Nat) (r i s o k y n : Int) (w : World) (hB : Mach w g r i s) (ho : o = 3 ∨ o = 4 ∨ o = 5 ∨ o = 6) :
    Calls Try.prog 73 #[.pointer (some ⟨g, 0, none⟩), .agg #[.int .i64 o, .int .i64 k, .int .i64 y, .int .i64 n]] w fun e w' => e = .returned (.bool (asksW (o, k, y, n) r)) ∧ Ext w w' := by
  obtain ⟨z, hz⟩ : ∃ z, z = asksW (o, k, y, n) r := ⟨_, rfl⟩
  rw [← hz]
  have hlt := Blk.lt hB
  have c0 := (Blk.alloc hB (.cells #[.int .i64 o, .int .i64 k, .int .i64 y, .int .i64 n] 34)).cell 0 _ rfl
  rcases ho with rfl | rfl | rfl | rfl
  · have HZ : Hid (z = (r == k)) := hz
    clear hz hB
    go_enter Try.func73, Try.ntmps73
    go_wp2
    go_quiet (fail)
    go_wp2
    go_ret
    exact ⟨by rw [HZ.out]; rfl, (Ext.one _ _).drewN _⟩
  · have HZ : Hid (z = decide (k < r)) := hz
    clear hz hB
    go_enter Try.func73, Try.ntmps73
    go_wp2
    go_quiet (fail)
    go_wp2
    go_ret
    exact ⟨by rw [HZ.out]; rfl, (Ext.one _ _).drewN _⟩
  · have HZ : Hid (z = decide (k ≤ r)) := hz
    clear hz hB
    go_enter Try.func73, Try.ntmps73
    go_wp2
    go_quiet (fail)
    go_wp2
    go_ret
    exact ⟨by rw [HZ.out]; rfl, (Ext.one _ _).drewN _⟩
  · have HZ : Hid (z = (bits .and .i64 r k != 0)) := hz
    clear hz hB
    go_enter Try.func73, Try.ntmps73
    go_wp2
    go_quiet (fail)
    go_wp2
    go_ret
    exact ⟨by rw [HZ.out]; rfl, (Ext.one _ _).drewN _⟩

set_option maxHeartbeats 1600000 in
theorem taken_any (g : Nat) (r i s o k y n : Int) (w : World) (hB : Mach w g r i s) (ho : o = 3 ∨ o = 4 ∨ o = 5 ∨ o = 6) :
    Calls Try.prog 64 #[.pointer (some ⟨g, 0, none⟩), .agg #[.int .i64 o, .int .i64 k, .int .i64 y, .int .i64 n]] w fun e w' => e = .returned (.int .i64 (overW (o, k, y, n) r)) ∧ Ext w w' := by
  obtain ⟨z, hz⟩ : ∃ z, z = overW (o, k, y, n) r := ⟨_, rfl⟩
  rw [← hz]
  have HH : Hid (Calls Try.prog 73 #[.pointer (some ⟨g, 0, none⟩), .agg #[.int .i64 o, .int .i64 k, .int .i64 y, .int .i64 n]] (w.alloc (.cells #[.int .i64 o, .int .i64 k, .int .i64 y, .int .i64 n] 34)) fun e w' => e = .returned (.bool (asksW (o, k, y, n) r)) ∧ Ext (w.alloc (.cells #[.int .i64 o, .int .i64 k, .int .i64 y, .int .i64 n] 34)) w') := holds_any g r i s o k y n _ (Blk.alloc hB _) ho
  have HZ : Hid (z = if asksW (o, k, y, n) r = true then y else n) := by
    unfold Hid; rw [hz]; unfold overW; rw [if_pos (by simp only; omega)]
  clear hz hB ho
  have b1 := Blk.new w [.int .i64 o, .int .i64 k, .int .i64 y, .int .i64 n] 34
  cases hq : asksW (o, k, y, n) r
  all_goals
    rw [hq] at HH HZ
    clear hq
    go_enter Try.func64, Try.ntmps64
    go_wp2_with fail
    refine HH.out.mono ?_
    rintro e w1 ⟨rfl, e1⟩
    have E1 : Hid (Ext w w1) := (Ext.one _ _).trans e1
    have b2 := b1.ext e1
    obtain ⟨q1, q2⟩ := (⟨b2.cell 2 _ rfl, b2.cell 3 _ rfl⟩ : _ ∧ _)
    clear e1 b2 b1
    go_wp2
    go_ret
    exact ⟨by rw [HZ.out]; rfl, E1.out⟩

theorem grown_drew {w w' : World} {row : Option Nat} (h : w.grownBy w' row) : w.grownBy w'.drew row := ⟨h.os, h.tape, h.output, h.size, h.block⟩

theorem mach_eq {w : World} {g : Nat} {r i s r' i' s' : Int} (h : Mach w g r i s) (hr : r = r') (hi : i = i') (hs : s = s') : Mach w g r' i' s' := by rw [← hr, ← hi, ← hs]; exact h

set_option maxRecDepth 100000 in
set_option maxHeartbeats 4000000 in
theorem step_any (g i s : Nat) (r o k y n arch num : Int) (cs : List (Int × Int)) (v : Value) (w : World) (hB : Mach w g r i s) (hok : okW (o, k, y, n) = true) (h8 : o ≠ 8) (hi : i ≤ 400) (hs : s ≤ 400) (hl : cs.length ≤ 1048576) (hR : RepCall arch num cs v w) :
    Calls Try.prog 41 #[.pointer (some ⟨g, 0, none⟩), .agg #[.int .i64 o, .int .i64 k, .int .i64 y, .int .i64 n], v] w fun e w' => e = .returned (.tuple #[]) ∧ Mach w' g (regW (fieldR arch num cs) (o, k, y, n) r) ((i + 1 + (overW (o, k, y, n) r).toNat : Nat) : Int) ((s + 1 : Nat) : Int) ∧ w.grownBy w' (some g) := by
  rw [okW_P] at hok
  unfold insP at hok
  simp only at hok
  obtain ⟨a, cap, rfl, hw⟩ := hR
  obtain ⟨m, hm⟩ : ∃ m, m = cs.length := ⟨_, rfl⟩
  have hlt := Blk.lt hB
  have HR : Hid (RepCall arch num cs (.agg #[.int .i64 arch, .int .i64 num, .slice a m cap]) w) := ⟨a, cap, by rw [hm], hw⟩
  rw [← hm]
  have HB : Hid (Mach w g r i s) := hB
  clear hw hm hB
  have ho : o = 1 ∨ o = 2 ∨ (o = 3 ∨ o = 4 ∨ o = 5 ∨ o = 6) ∨ o = 7 := by omega
  rcases ho with rfl | rfl | ho | rfl
  · have HN : Hid (regW (fieldR arch num cs) (1, k, y, n) r = fieldR arch num cs k ∧ overW (1, k, y, n) r = 0) := ⟨rfl, rfl⟩
    have hf : ∀ w1, Ext w w1 → Calls Try.prog 63 #[.agg #[.int .i64 arch, .int .i64 num, .slice a m cap], .int .i64 k] w1 fun e w' => e = .returned (.tuple #[.int .i64 (fieldR arch num cs k), .bool (fieldOk arch num cs k)]) ∧ Ext w1 w' := fun w1 he => iField_rep arch num cs k _ w1 hl (HR.out.step he)
    obtain ⟨F, hF⟩ : ∃ F, F = fieldR arch num cs k := ⟨_, rfl⟩
    rw [← hF] at hf HN
    have HFI : Hid (∀ w1, Ext w w1 → Calls Try.prog 63 #[.agg #[.int .i64 arch, .int .i64 num, .slice a m cap], .int .i64 k] w1 fun e w' => e = .returned (.tuple #[.int .i64 F, .bool (fieldOk arch num cs k)]) ∧ Ext w1 w') := hf
    clear hf hF
    go_enter Try.func41, Try.ntmps41
    go_wp2_with fail
    refine (HFI.out _ ((Ext.one _ _).alloc _)).mono ?_
    rintro e w1 ⟨rfl, e1⟩
    have E1 : Hid (Ext w w1) := ((Ext.one _ _).alloc _).trans e1
    have b1 := Blk.ext HB.out E1.out
    have HB1 : Hid (Mach w1 g r i s) := b1
    obtain ⟨c0, c1, c2⟩ := (⟨b1.cell 0 _ rfl, b1.cell 1 _ rfl, b1.cell 2 _ rfl⟩ : _ ∧ _ ∧ _)
    have f := b1.free
    clear e1 b1 HFI
    go_wp2
    go_end0
    refine ⟨rfl, mach_eq (r := F) (i := (i : Int) + 1) (s := (s : Int) + 1) (((Blk.set HB1.out 0 _).set 1 _).set 2 _) HN.out.1.symm (by rw [HN.out.2]; simp) (by simp), ?_⟩
    exact grown_trans (grown_trans (grown_trans (grown_ext E1.out _) grown_set) grown_set) grown_set
  · have HN : Hid (regW (fieldR arch num cs) (2, k, y, n) r = bits .and .i64 r k ∧ overW (2, k, y, n) r = 0) := ⟨rfl, rfl⟩
    obtain ⟨W, hW⟩ : ∃ W, W = (w.alloc (.cells #[.int .i64 2, .int .i64 k, .int .i64 y, .int .i64 n] 34)).alloc (.cells #[.int .i64 arch, .int .i64 num, .slice a m cap] 28) := ⟨_, rfl⟩
    have E1 : Hid (Ext w W) := by rw [hW]; exact (Ext.one _ _).alloc _
    have b1 := Blk.ext HB.out E1.out
    have HB1 : Hid (Mach W g r i s) := b1
    obtain ⟨c0, c1, c2⟩ := (⟨b1.cell 0 _ rfl, b1.cell 1 _ rfl, b1.cell 2 _ rfl⟩ : _ ∧ _ ∧ _)
    have f := b1.free
    have bx := (Blk.alloc (Blk.new w [.int .i64 2, .int .i64 k, .int .i64 y, .int .i64 n] 34) (.cells #[.int .i64 arch, .int .i64 num, .slice a m cap] 28)).cell 1 _ rfl
    rw [← hW] at bx
    clear b1
    go_enter Try.func41, Try.ntmps41
    go_wp2
    rw [← hW]
    clear hW
    go_region
    all_goals go_wp2
    all_goals go_end0
    refine ⟨rfl, mach_eq (r := bits .and .i64 r k) (i := (i : Int) + 1) (s := (s : Int) + 1) (((Blk.set HB1.out 0 _).set 1 _).set 2 _) HN.out.1.symm (by rw [HN.out.2]; simp) (by simp), ?_⟩
    exact grown_drew (grown_trans (grown_trans (grown_trans (grown_ext E1.out _) grown_set) grown_set) grown_set)
  · obtain ⟨ov, hov⟩ : ∃ ov, ov = overW (o, k, y, n) r := ⟨_, rfl⟩
    have hreg : regW (fieldR arch num cs) (o, k, y, n) r = r := by unfold regW; rw [if_neg (by simp only; omega), if_neg (by simp only; omega)]
    have hov2 : 0 ≤ ov ∧ ov ≤ 15 := by
      have : overW (o, k, y, n) r = if asksW (o, k, y, n) r = true then y else n := by unfold overW; rw [if_pos (by simp only; omega)]
      rw [hov, this]; split <;> omega
    obtain ⟨ov0, ov1⟩ := hov2
    have HN : Hid (regW (fieldR arch num cs) (o, k, y, n) r = r ∧ overW (o, k, y, n) r = ov) := ⟨hreg, hov.symm⟩
    obtain ⟨W, hW⟩ : ∃ W, W = (w.alloc (.cells #[.int .i64 o, .int .i64 k, .int .i64 y, .int .i64 n] 34)).alloc (.cells #[.int .i64 arch, .int .i64 num, .slice a m cap] 28) := ⟨_, rfl⟩
    have E1 : Hid (Ext w W) := by rw [hW]; exact (Ext.one _ _).alloc _
    have b1 := Blk.ext HB.out E1.out
    have HT : Hid (Calls Try.prog 64 #[.pointer (some ⟨g, 0, none⟩), .agg #[.int .i64 o, .int .i64 k, .int .i64 y, .int .i64 n]] W fun e w' => e = .returned (.int .i64 ov) ∧ Ext W w') := by
      rw [hov]; exact taken_any g r i s o k y n W b1 ho
    have bx : Hid (Blk W w.heap.size [.int .i64 o, .int .i64 k, .int .i64 y, .int .i64 n] 34) := by rw [hW]; exact Blk.alloc (Blk.new w [.int .i64 o, .int .i64 k, .int .i64 y, .int .i64 n] 34) (.cells #[.int .i64 arch, .int .i64 num, .slice a m cap] 28)
    have HB1 : Hid (Mach W g r i s) := b1
    clear b1 hreg hov hok
    rcases ho with rfl | rfl | rfl | rfl
    all_goals
      go_enter Try.func41, Try.ntmps41
      go_wp2_with fail
      rw [← hW]
      clear hW
      refine HT.out.mono ?_
      rintro e w1 ⟨rfl, e1⟩
      have E2 : Hid (Ext w w1) := E1.out.trans e1
      have HB2 : Hid (Mach w1 g r i s) := Blk.ext HB1.out e1
      have bx1 := Blk.ext bx.out e1
      have d1 := bx1.cell 1 _ rfl
      have fd := bx1.free
      obtain ⟨c0, c1, c2⟩ := (⟨Blk.cell HB2.out 0 _ rfl, Blk.cell HB2.out 1 _ rfl, Blk.cell HB2.out 2 _ rfl⟩ : _ ∧ _ ∧ _)
      have HB3 : Hid (Mach (w1.setCell ⟨w.heap.size, 1, none⟩ (.int .i64 ov)) g r i s) := Blk.other HB2.out (by omega) _ _
      have HX3 : Hid (Blk (w1.setCell ⟨w.heap.size, 1, none⟩ (.int .i64 ov)) w.heap.size [.int .i64 _, .int .i64 ov, .int .i64 y, .int .i64 n] 34) := Blk.set bx1 1 _
      have HG3 : Hid (w.grownBy (w1.setCell ⟨w.heap.size, 1, none⟩ (.int .i64 ov)) (some g)) := grown_store (grown_ext E2.out _) (Nat.le_refl _) _ _
      clear e1 bx1 HB1 bx HT E1
      go_wp2
      generalize w1.setCell ⟨w.heap.size, 1, none⟩ (.int .i64 ov) = W2 at HB3 HX3 HG3 ⊢
      clear c0 c1 c2 d1 fd
      obtain ⟨c0, c1, c2⟩ := (⟨Blk.cell HB3.out 0 _ rfl, Blk.cell HB3.out 1 _ rfl, Blk.cell HB3.out 2 _ rfl⟩ : _ ∧ _ ∧ _)
      have f := Blk.free HB3.out
      have d1 := Blk.cell HX3.out 1 _ rfl
      go_region
      all_goals go_wp2
      all_goals go_end0
      refine ⟨rfl, mach_eq (r := r) (i := (i : Int) + ov + 1) (s := (s : Int) + 1) ((((Blk.set HB3.out 1 _).set 1 _)).set 2 _) HN.out.1.symm (by rw [HN.out.2]; omega) (by simp), ?_⟩
      exact grown_drew (grown_trans (grown_trans (grown_trans HG3.out grown_set) grown_set) grown_set)
  · have hk2 : 0 ≤ k ∧ k ≤ 399 := by omega
    obtain ⟨k0, k1⟩ := hk2
    have HN : Hid (regW (fieldR arch num cs) (7, k, y, n) r = r ∧ overW (7, k, y, n) r = k) := ⟨rfl, rfl⟩
    obtain ⟨W, hW⟩ : ∃ W, W = (w.alloc (.cells #[.int .i64 7, .int .i64 k, .int .i64 y, .int .i64 n] 34)).alloc (.cells #[.int .i64 arch, .int .i64 num, .slice a m cap] 28) := ⟨_, rfl⟩
    have E1 : Hid (Ext w W) := by rw [hW]; exact (Ext.one _ _).alloc _
    have b1 := Blk.ext HB.out E1.out
    have HB1 : Hid (Mach W g r i s) := b1
    obtain ⟨c0, c1, c2⟩ := (⟨b1.cell 0 _ rfl, b1.cell 1 _ rfl, b1.cell 2 _ rfl⟩ : _ ∧ _ ∧ _)
    have f := b1.free
    have bx := (Blk.alloc (Blk.new w [.int .i64 7, .int .i64 k, .int .i64 y, .int .i64 n] 34) (.cells #[.int .i64 arch, .int .i64 num, .slice a m cap] 28)).cell 1 _ rfl
    rw [← hW] at bx
    clear b1 hok
    go_enter Try.func41, Try.ntmps41
    go_wp2
    rw [← hW]
    clear hW
    go_region
    all_goals go_wp2
    all_goals go_end0
    refine ⟨rfl, mach_eq (r := r) (i := (i : Int) + k + 1) (s := (s : Int) + 1) ((((Blk.set HB1.out 1 _).set 1 _)).set 2 _) HN.out.1.symm (by rw [HN.out.2]; omega) (by simp), ?_⟩
    exact grown_drew (grown_trans (grown_trans (grown_trans (grown_ext E1.out _) grown_set) grown_set) grown_set)

end Go.Proofs.Ytaigoggoibdgbaa
