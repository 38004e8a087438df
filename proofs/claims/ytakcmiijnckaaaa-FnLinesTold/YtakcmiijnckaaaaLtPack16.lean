/- What spec's l06Ins draws: a word that is right. -/
import Derived.Test.YtakcmiijnckaaaaLtPack15
import Derived.Deep.SlicePairs
import Derived.BigQuiet
import Derived.Deep.QuietTactic
import Derived.Deep.RegionHeld3
import Derived.Handy
/- Programs in memory: rows of words; a law's program opened. -/
namespace Go.Proofs.Ytakcmiijnckaaaa
open Go.ChangeShapes Go.WideShapes Go.ChangeAt Go.RowKit Go.Joins Go.Deep
set_option linter.unusedVariables false

/-- A word's four cells. -/
def Quad (w : World) (b o : Nat) (p : Wd) : Prop := w.cell? ⟨b, o, none⟩ = some (.int .i64 p.1) ∧ w.cell? ⟨b, o + 1, none⟩ = some (.int .i64 p.2.1) ∧ w.cell? ⟨b, o + 2, none⟩ = some (.int .i64 p.2.2.1) ∧ w.cell? ⟨b, o + 3, none⟩ = some (.int .i64 p.2.2.2)

theorem Quad.below {w w' : World} {b o B : Nat} {p : Wd} (h : Quad w b o p) (hb : Below B w w') (hB : b < B) : Quad w' b o p :=
  ⟨(hb.cell (p := ⟨b, o, none⟩) hB).trans h.1, (hb.cell (p := ⟨b, o + 1, none⟩) hB).trans h.2.1, (hb.cell (p := ⟨b, o + 2, none⟩) hB).trans h.2.2.1, (hb.cell (p := ⟨b, o + 3, none⟩) hB).trans h.2.2.2⟩

theorem Quad.lt {w : World} {b o : Nat} {p : Wd} (h : Quad w b o p) : b < w.heap.size := World.block_lt_of_cell? w _ h.1

/-- These words lie in a row from there on. -/
def Words (w : World) (a : Option Addr) (ws : List Wd) : Prop := 0 < ws.length → ∃ b off, a = some ⟨b, off, none⟩ ∧ ∀ j, j < ws.length → Quad w b (off + j * 4) (ws.getD j zeroW)

theorem Words.below {w w' : World} {a : Option Addr} {ws : List Wd} {B : Nat} (h : Words w a ws) (hb : Below B w w') (hB : w.heap.size ≤ B) : Words w' a ws := fun hp => by
  obtain ⟨b, off, ha, hc⟩ := h hp
  exact ⟨b, off, ha, fun j hj => (hc j hj).below hb (Nat.lt_of_lt_of_le (hc j hj).lt hB)⟩

theorem Words.ext {w w' : World} {a : Option Addr} {ws : List Wd} (h : Words w a ws) (hE : Ext w w') : Words w' a ws := h.below hE (Nat.le_refl _)

theorem Words.quad {w : World} {a : Option Addr} {ws : List Wd} (h : Words w a ws) {k : Nat} (hk : k < ws.length) {p : Wd} (hp : p = ws.getD k zeroW) : ∃ b off, a = some ⟨b, off, none⟩ ∧ Quad w b (off + k * 4) p := by
  obtain ⟨b, off, ha, hc⟩ := h (by omega)
  exact ⟨b, off, ha, by rw [hp]; exact hc k hk⟩

end Go.Proofs.Ytakcmiijnckaaaa

/- What impl's and spec's CheckProgram answer, of every program: the same plain test. -/
namespace Go.Proofs.Ytakcmiijnckaaaa
open Go.RowKit
set_option linter.unusedVariables false

theorem Ext.drewN {W W' : World} (h : Ext W W') (n : Nat) : Ext W (W'.drewN n) := Below.grown h (grown_drewN W' n none) h.size (fun k hk => by cases hk)

set_option maxHeartbeats 1600000 in
theorem ways_any (o k y n : Int) (w : World) : Calls Try.prog 84 #[.agg #[.int .i64 o, .int .i64 k, .int .i64 y, .int .i64 n]] w fun e w' => e = .returned (.tuple #[.int .i64 (yesW (o, k, y, n)), .int .i64 (noW (o, k, y, n))]) ∧ Ext w w' := by
  obtain ⟨a, ha⟩ : ∃ a, a = yesW (o, k, y, n) := ⟨_, rfl⟩
  obtain ⟨b, hb⟩ : ∃ b, b = noW (o, k, y, n) := ⟨_, rfl⟩
  rw [← ha, ← hb]
  by_cases h36 : o = 3 ∨ o = 4 ∨ o = 5 ∨ o = 6
  · have HZ : Hid (a = y ∧ b = n) := by
      refine ⟨?_, ?_⟩
      · rw [ha]; unfold yesW; rw [if_pos (by simp only; omega)]
      · rw [hb]; unfold noW; rw [if_pos (by simp only; omega)]
    clear ha hb
    rcases h36 with rfl | rfl | rfl | rfl
    all_goals
      go_enter Try.func84, Try.ntmps84
      go_wp2
      go_quiet (fail)
      go_wp2
      go_ret2
      exact ⟨by rw [HZ.out.1, HZ.out.2]; rfl, (Ext.one _ _).drewN _⟩
  by_cases h7 : o = 7
  · have HZ : Hid (a = k ∧ b = k) := by
      refine ⟨?_, ?_⟩
      · rw [ha]; unfold yesW; rw [if_neg (by simp only; omega), if_pos h7]
      · rw [hb]; unfold noW; rw [if_neg (by simp only; omega), if_pos h7]
    clear ha hb h36
    subst h7
    go_enter Try.func84, Try.ntmps84
    go_wp2
    go_quiet (fail)
    go_wp2
    go_ret2
    exact ⟨by rw [HZ.out.1, HZ.out.2]; rfl, (Ext.one _ _).drewN _⟩
  · have HZ : Hid (a = 0 ∧ b = 0) := by
      refine ⟨?_, ?_⟩
      · rw [ha]; unfold yesW; rw [if_neg (by simp only; omega), if_neg h7]
      · rw [hb]; unfold noW; rw [if_neg (by simp only; omega), if_neg h7]
    have q3 : (o == 3) = false := by simp; omega
    have q4 : (o == 4) = false := by simp; omega
    have q5 : (o == 5) = false := by simp; omega
    have q6 : (o == 6) = false := by simp; omega
    have q7 : (o == 7) = false := by simp; omega
    clear ha hb h36 h7
    go_enter Try.func84, Try.ntmps84
    go_wp2
    go_ret2
    exact ⟨by rw [HZ.out.1, HZ.out.2]; rfl, Ext.one _ _⟩

theorem none_iff {s : ByteArray} : s.toList = [] ↔ s = noText := by
  rw [ByteArray.toList_eq]
  constructor
  · intro h
    exact ByteArray.ext (Array.toList_inj.1 h)
  · intro h
    rw [h]
    rfl

theorem eqText (a b : ByteArray) : (a.toList == b.toList) = decide (a = b) := by
  by_cases h : a = b
  · subst h; simp
  · rw [decide_eq_false h, beq_eq_false_iff_ne, ByteArray.toList_eq, ByteArray.toList_eq]
    exact fun e => h (ByteArray.ext (Array.toList_inj.1 e))

def askB (o : Int) : Bool := decide (3 ≤ o) && decide (o ≤ 6)

theorem askB_true {o : Int} : askB o = true ↔ askP o := by unfold askB askP; simp

theorem askB_false {o : Int} : askB o = false ↔ ¬ askP o := by rw [← askB_true]; simp

theorem iPlace_any (l : Ln) (w : World) : Calls Try.prog 49 #[l.val] w fun e w' => e = .returned (.bool (l.wd.1 == 0)) ∧ Ext w w' := by
  obtain ⟨lab, ⟨o, k, y, n⟩, yes, no⟩ := l
  show Calls Try.prog 49 #[.agg #[.string lab, .int .i64 o, .int .i64 k, .int .i64 y, .int .i64 n, .string yes, .string no]] w fun e w' => e = .returned (.bool (o == 0)) ∧ Ext w w'
  go_enter Try.func49, Try.ntmps49
  go_wp2
  go_ret
  exact ⟨rfl, Ext.one _ _⟩

theorem iAsk_any (l : Ln) (w : World) : Calls Try.prog 72 #[l.val] w fun e w' => e = .returned (.bool (askB l.wd.1)) ∧ Ext w w' := by
  obtain ⟨lab, ⟨o, k, y, n⟩, yes, no⟩ := l
  show Calls Try.prog 72 #[.agg #[.string lab, .int .i64 o, .int .i64 k, .int .i64 y, .int .i64 n, .string yes, .string no]] w fun e w' => e = .returned (.bool (askB o)) ∧ Ext w w'
  have HB : Hid (askB o = (decide (3 ≤ o) && decide (o ≤ 6))) := rfl
  by_cases h0 : 3 ≤ o
  · by_cases h1 : o ≤ 6
    · go_enter Try.func72, Try.ntmps72
      go_wp2
      go_ret
      exact ⟨by rw [HB.out]; simp [h0, h1], Ext.one _ _⟩
    · go_enter Try.func72, Try.ntmps72
      go_wp2
      go_ret
      exact ⟨by rw [HB.out]; simp [h0, h1], Ext.one _ _⟩
  · go_enter Try.func72, Try.ntmps72
    go_wp2
    go_ret
    exact ⟨by rw [HB.out, decide_eq_false (show ¬ 3 ≤ o by omega)]; simp, Ext.one _ _⟩

theorem bare_any (o k y n : Int) (z : Bool) (w : World) (hz : z = true ↔ yesW (o, k, y, n) = 0 ∧ noW (o, k, y, n) = 0) : Calls Try.prog 76 #[.agg #[.int .i64 o, .int .i64 k, .int .i64 y, .int .i64 n]] w fun e w' => e = .returned (.bool z) ∧ Ext w w' := by
  obtain ⟨a, ha⟩ : ∃ a, a = yesW (o, k, y, n) := ⟨_, rfl⟩
  obtain ⟨b, hb⟩ : ∃ b, b = noW (o, k, y, n) := ⟨_, rfl⟩
  rw [← ha, ← hb] at hz
  have HW : Hid (∀ w, Calls Try.prog 84 #[.agg #[.int .i64 o, .int .i64 k, .int .i64 y, .int .i64 n]] w fun e w' => e = .returned (.tuple #[.int .i64 a, .int .i64 b]) ∧ Ext w w') := fun w => by rw [ha, hb]; exact ways_any o k y n w
  have HZ : Hid (z = true ↔ a = 0 ∧ b = 0) := hz
  clear ha hb hz
  by_cases h0 : a = 0
  · by_cases h1 : b = 0
    · obtain rfl : z = true := HZ.out.2 ⟨h0, h1⟩
      subst h0
      subst h1
      go_enter Try.func76, Try.ntmps76
      go_wp2_with fail
      refine (HW.out _).mono ?_
      rintro e w1 ⟨rfl, e1⟩
      go_wp2
      go_ret
      exact ⟨rfl, (Ext.one _ _).trans e1⟩
    · obtain rfl : z = false := by cases z with | false => rfl | true => exact absurd (HZ.out.1 rfl).2 h1
      subst h0
      have q1 : (b == 0) = false := by simpa using h1
      go_enter Try.func76, Try.ntmps76
      go_wp2_with fail
      refine (HW.out _).mono ?_
      rintro e w1 ⟨rfl, e1⟩
      go_wp2
      go_ret
      exact ⟨by simp, (Ext.one _ _).trans e1⟩
  · obtain rfl : z = false := by cases z with | false => rfl | true => exact absurd (HZ.out.1 rfl).1 h0
    have q0 : (a == 0) = false := by simpa using h0
    go_enter Try.func76, Try.ntmps76
    go_wp2_with fail
    refine (HW.out _).mono ?_
    rintro e w1 ⟨rfl, e1⟩
    go_wp2
    go_ret
    exact ⟨by simp, (Ext.one _ _).trans e1⟩

theorem sPlace_any (l : Ln) (w : World) : Calls Try.prog 55 #[l.val] w fun e w' => e = .returned (.bool (decide (l.wd = zeroW))) ∧ Ext w w' := by
  obtain ⟨lab, ⟨o, k, y, n⟩, yes, no⟩ := l
  show Calls Try.prog 55 #[.agg #[.string lab, .int .i64 o, .int .i64 k, .int .i64 y, .int .i64 n, .string yes, .string no]] w fun e w' => e = .returned (.bool (decide ((o, k, y, n) = zeroW))) ∧ Ext w w'
  obtain ⟨z, hz⟩ : ∃ z, z = decide ((o, k, y, n) = zeroW) := ⟨_, rfl⟩
  rw [← hz]
  have HZ : Hid (z = true ↔ o = 0 ∧ k = 0 ∧ y = 0 ∧ n = 0) := by
    show _ ↔ _
    rw [hz]
    unfold zeroW
    simp [Prod.mk.injEq]
  clear hz
  by_cases h0 : o = 0 ∧ k = 0 ∧ y = 0 ∧ n = 0
  · obtain rfl : z = true := HZ.out.2 h0
    obtain ⟨rfl, rfl, rfl, rfl⟩ := h0
    go_enter Try.func55, Try.ntmps55
    go_wp2
    go_ret
    exact ⟨rfl, Ext.one _ _⟩
  · obtain rfl : z = false := by cases z with | false => rfl | true => exact absurd (HZ.out.1 rfl) h0
    have H0 : Hid (¬ (o = 0 ∧ k = 0 ∧ y = 0 ∧ n = 0)) := h0
    clear h0 HZ
    go_enter Try.func55, Try.ntmps55
    go_wp2
    all_goals first
      | exact absurd ⟨by assumption, by assumption, by assumption, by assumption⟩ H0.out
      | (go_ret; exact ⟨rfl, Ext.one _ _⟩)

theorem Try.infoN : (Try.prog.info? 35).map (fun i => (i.zero, i.size, i.bytes)) = some (some (.agg #[.int .i64 0, .int .i64 0, .int .i64 0, .int .i64 0]), 4, 32) := by kernel_rfl

theorem set_same {W : World} {a : Addr} {u : Value} (v : Value) (h : W.cell? a = some u) : (W.setCell a v).cell? a = some v := World.cell?_setCell_same _ _ _ h

theorem set_far {W : World} {a q : Addr} {v : Value} (h : q ≠ a) : (W.setCell a v).cell? q = W.cell? q := World.cell?_setCell_other _ _ _ _ (Ne.symm h)

theorem off_ne {g i j : Nat} (h : i ≠ j) : (⟨g, i, none⟩ : Addr) ≠ ⟨g, j, none⟩ := fun e => h (by injection e)

/-- The cells of words in a row. -/
def flatI (ws : List Wd) : List Value := ws.flatMap fun p => ints4 p.1 p.2.1 p.2.2.1 p.2.2.2

theorem flatI_length : ∀ ws : List Wd, (flatI ws).length = ws.length * 4
  | [] => rfl
  | p :: ws => by
    have := flatI_length ws
    simp only [flatI, List.flatMap_cons, List.length_append, List.length_cons] at *
    rw [this]
    simp [ints4]
    omega

theorem flatI_at : ∀ (ws : List Wd) (j : Nat), j < ws.length → (flatI ws)[j * 4]? = some (.int .i64 (ws.getD j zeroW).1) ∧ (flatI ws)[j * 4 + 1]? = some (.int .i64 (ws.getD j zeroW).2.1) ∧ (flatI ws)[j * 4 + 2]? = some (.int .i64 (ws.getD j zeroW).2.2.1) ∧ (flatI ws)[j * 4 + 3]? = some (.int .i64 (ws.getD j zeroW).2.2.2)
  | p :: ws, 0, _ => by simp [flatI, ints4]
  | p :: ws, j + 1, h => by
    have ih := flatI_at ws j (by simpa using h)
    have e : ∀ i, (flatI (p :: ws))[(j + 1) * 4 + i]? = (flatI ws)[j * 4 + i]? := fun i => by
      have hf : flatI (p :: ws) = ints4 p.1 p.2.1 p.2.2.1 p.2.2.2 ++ flatI ws := by simp [flatI]
      rw [hf, List.getElem?_append_right (by simp [ints4]; omega)]
      congr 1
      simp [ints4]
      omega
    rw [e 1, e 2, e 3, ← Nat.add_zero ((j + 1) * 4), e 0]
    exact ih

/-- These words lie in a row of their own, not below B, which may be written. -/
def Own4 (w : World) (B : Nat) (v : Value) (ws : List Wd) : Prop := w.ownsRow B 35 4 v ws.length (flatI ws)

theorem Own4.words {w : World} {B : Nat} {v : Value} {ws : List Wd} (h : Own4 w B v ws) : ∃ a cap, v = .slice a ws.length cap ∧ ws.length ≤ cap ∧ Words w a ws ∧ (0 < ws.length → ∃ g, a = some ⟨g, 0, none⟩ ∧ B ≤ g ∧ ∀ j, w.frozen? ⟨g, j, none⟩ = false) := by
  have hown : w.ownsRow B 35 4 v ws.length (flatI ws) := h
  rcases h.2 with ⟨rfl, h0⟩ | ⟨g, cap, cur, rfl, hg, hh, hnc, hcp, hcs, htake⟩
  · exact ⟨none, 0, by rw [h0], by omega, fun hp => by omega, fun hp => by omega⟩
  · refine ⟨_, cap, rfl, hnc, fun hp => ⟨g, 0, rfl, fun j hj => ?_⟩, fun hp => ⟨g, rfl, hg, fun j => frozen_of_row w g j cur 35 hh⟩⟩
    obtain ⟨e0, e1, e2, e3⟩ := flatI_at ws j hj
    have cell : ∀ i v, (flatI ws)[i]? = some v → w.cell? ⟨g, i, none⟩ = some v := fun i v hv => by
      have hc := hown.cells (g := g) rfl i v hv
      rwa [Addr.add_lit, Nat.zero_add] at hc
    rw [Nat.zero_add]
    exact ⟨cell _ _ e0, cell _ _ e1, cell _ _ e2, cell _ _ e3⟩

theorem Own4.nil (w : World) (B : Nat) : Own4 w B (.slice none 0 0) [] := World.ownsRow_nil _ _ _ _

theorem Own4.lit (w : World) (B : Nat) (hB : B ≤ w.heap.size) : Own4 (w.alloc (.cells #[] 35)) B (.slice (some ⟨w.heap.size, 0, none⟩) 0 0) [] := World.ownsRow_lit (e := 35) (size := 4) w #[] 0 hB (by decide) rfl

theorem Own4.ext {w w' : World} {B : Nat} {v : Value} {ws : List Wd} (h : Own4 w B v ws) (hE : Ext w w') : Own4 w' B v ws := own_below h hE

theorem Own4.alloc {w : World} {B : Nat} {v : Value} {ws : List Wd} (h : Own4 w B v ws) (o : Obj) : Own4 (w.alloc o) B v ws := World.ownsRow.alloc h o

theorem sRes_any (a d : Nat) (w : World) (ha : a ≤ 5) (hd : d ≤ 4) : Calls Try.prog 68 #[.int .i64 (a : Int), .int .i64 (d : Int)] w fun e w' => e = .returned (.int .i64 ((65536 * a + d : Nat) : Int)) ∧ w = w' := by
  have h1 : inB (a : Int) 0 5 = true := inB_true.2 (by omega)
  have h2 : inB (d : Int) 0 65535 = true := inB_true.2 (by omega)
  have b1 : (a : Int) ≤ 5 := by omega
  have b2 : (d : Int) ≤ 4 := by omega
  go_enter Try.func68, Try.ntmps68
  go_wp2_with (go_at_call 41; refine (in_any _ _ _ _).mono ?_; rintro e w' ⟨rfl, rfl⟩)
  go_ret
  exact ⟨ret_int (a := 65536 * (a : Int) + (d : Int)) (by omega), rfl⟩

theorem half_any (p : Nat) (a : Option Addr) (len cap : Nat) (w : World) (hC : Cur w p a len cap) :
    Calls Try.prog 65 #[.pointer (some ⟨p, 0, none⟩)] w fun e w' => ∃ z : Nat, z ≤ 4294967295 ∧ e = .returned (.int .i64 (z : Int)) ∧ Cur w' p a len cap ∧ w.grownBy w' (some p) := by
  have HC : Hid (Cur w p a len cap) := hC
  clear hC
  go_enter Try.func65, Try.ntmps65
  go_wp2_with fail
  refine (below_any 12 p a len cap _ HC.out (by omega)).mono ?_
  rintro e w1 ⟨x, hx, _, _, rfl, hc1, hg1⟩
  have hx12 := hx (by omega)
  have HP : Hid (p < w1.heap.size) := hc1.lt
  have HC1 : Hid (Cur w1 p a len cap) := hc1
  clear hc1 hx
  go_wp2_with fail
  refine (pick_list [0, 1, 2, 3, 5, 7, 255, 4294967295, 2147483648, (x : Int)] _ p a len cap _ (HC1.out.alloc _) (Blk.new _ _ _) (by have := HP.out; omega) (by simp) (by simp)).mono ?_
  rintro e w2 ⟨z, hz, rfl, hc2, hg2⟩
  have hh : 0 ≤ z ∧ z ≤ 4294967295 := by
    simp only [List.mem_cons, List.not_mem_nil, or_false] at hz
    omega
  have HG : Hid (w.grownBy w2 (some p)) := grown_trans (grown_alloc hg1 _) hg2
  clear hg1 hg2 hz
  go_wp2
  go_ret
  exact ⟨z.toNat, by omega, ret_int (by omega), hc2, HG.out⟩

end Go.Proofs.Ytakcmiijnckaaaa
