/- What the laws' markInsS and heldInsS do to a row of words. -/
import Derived.Test.YtakcmiijnckaaaaLayPack14
import Derived.Deep.SlicePairs
import Derived.BigQuiet
import Derived.Deep.QuietTactic
import Derived.Deep.RegionHeld3
import Derived.Handy
/- Programs in memory: rows of words; a law's program opened. -/
namespace Go.Proofs.Ytakcmiijnckaaaa
open Go.ChangeShapes Go.WideShapes Go.ChangeAt Go.RowKit Go.Joins Go.Deep
set_option linter.unusedVariables false

/-- A word's four cells. -/
def Quad (w : World) (b o : Nat) (p : Wd) : Prop := w.cell? ⟨b, o, none⟩ = some (.int .i64 p.1) ∧ w.cell? ⟨b, o + 1, none⟩ = some (.int .i64 p.2.1) ∧ w.cell? ⟨b, o + 2, none⟩ = some (.int .i64 p.2.2.1) ∧ w.cell? ⟨b, o + 3, none⟩ = some (.int .i64 p.2.2.2)

theorem Quad.below {w w' : World} {b o B : Nat} {p : Wd} (h : Quad w b o p) (hb : Below B w w') (hB : b < B) : Quad w' b o p :=
  ⟨(hb.cell (p := ⟨b, o, none⟩) hB).trans h.1, (hb.cell (p := ⟨b, o + 1, none⟩) hB).trans h.2.1, (hb.cell (p := ⟨b, o + 2, none⟩) hB).trans h.2.2.1, (hb.cell (p := ⟨b, o + 3, none⟩) hB).trans h.2.2.2⟩

theorem Quad.lt {w : World} {b o : Nat} {p : Wd} (h : Quad w b o p) : b < w.heap.size := World.block_lt_of_cell? w _ h.1

/-- These words lie in a row from there on. -/
def Words (w : World) (a : Option Addr) (ws : List Wd) : Prop := 0 < ws.length → ∃ b off, a = some ⟨b, off, none⟩ ∧ ∀ j, j < ws.length → Quad w b (off + j * 4) (ws.getD j zeroW)

theorem Words.below {w w' : World} {a : Option Addr} {ws : List Wd} {B : Nat} (h : Words w a ws) (hb : Below B w w') (hB : w.heap.size ≤ B) : Words w' a ws := fun hp => by
  obtain ⟨b, off, ha, hc⟩ := h hp
  exact ⟨b, off, ha, fun j hj => (hc j hj).below hb (Nat.lt_of_lt_of_le (hc j hj).lt hB)⟩

theorem Words.ext {w w' : World} {a : Option Addr} {ws : List Wd} (h : Words w a ws) (hE : Ext w w') : Words w' a ws := h.below hE (Nat.le_refl _)

theorem Words.quad {w : World} {a : Option Addr} {ws : List Wd} (h : Words w a ws) {k : Nat} (hk : k < ws.length) {p : Wd} (hp : p = ws.getD k zeroW) : ∃ b off, a = some ⟨b, off, none⟩ ∧ Quad w b (off + k * 4) p := by
  obtain ⟨b, off, ha, hc⟩ := h (by omega)
  exact ⟨b, off, ha, by rw [hp]; exact hc k hk⟩

end Go.Proofs.Ytakcmiijnckaaaa

/- What impl's and spec's CheckProgram answer, of every program: the same plain test. -/
namespace Go.Proofs.Ytakcmiijnckaaaa
open Go.RowKit
set_option linter.unusedVariables false

theorem Ext.drewN {W W' : World} (h : Ext W W') (n : Nat) : Ext W (W'.drewN n) := Below.grown h (grown_drewN W' n none) h.size (fun k hk => by cases hk)

set_option maxHeartbeats 1600000 in
theorem ways_any (o k y n : Int) (w : World) : Calls Try.prog 84 #[.agg #[.int .i64 o, .int .i64 k, .int .i64 y, .int .i64 n]] w fun e w' => e = .returned (.tuple #[.int .i64 (yesW (o, k, y, n)), .int .i64 (noW (o, k, y, n))]) ∧ Ext w w' := by
  obtain ⟨a, ha⟩ : ∃ a, a = yesW (o, k, y, n) := ⟨_, rfl⟩
  obtain ⟨b, hb⟩ : ∃ b, b = noW (o, k, y, n) := ⟨_, rfl⟩
  rw [← ha, ← hb]
  by_cases h36 : o = 3 ∨ o = 4 ∨ o = 5 ∨ o = 6
  · have HZ : Hid (a = y ∧ b = n) := by
      refine ⟨?_, ?_⟩
      · rw [ha]; unfold yesW; rw [if_pos (by simp only; omega)]
      · rw [hb]; unfold noW; rw [if_pos (by simp only; omega)]
    clear ha hb
    rcases h36 with rfl | rfl | rfl | rfl
    all_goals
      go_enter Try.func84, Try.ntmps84
      go_wp2
      go_quiet (fail)
      go_wp2
      go_ret2
      exact ⟨by rw [HZ.out.1, HZ.out.2]; rfl, (Ext.one _ _).drewN _⟩
  by_cases h7 : o = 7
  · have HZ : Hid (a = k ∧ b = k) := by
      refine ⟨?_, ?_⟩
      · rw [ha]; unfold yesW; rw [if_neg (by simp only; omega), if_pos h7]
      · rw [hb]; unfold noW; rw [if_neg (by simp only; omega), if_pos h7]
    clear ha hb h36
    subst h7
    go_enter Try.func84, Try.ntmps84
    go_wp2
    go_quiet (fail)
    go_wp2
    go_ret2
    exact ⟨by rw [HZ.out.1, HZ.out.2]; rfl, (Ext.one _ _).drewN _⟩
  · have HZ : Hid (a = 0 ∧ b = 0) := by
      refine ⟨?_, ?_⟩
      · rw [ha]; unfold yesW; rw [if_neg (by simp only; omega), if_neg h7]
      · rw [hb]; unfold noW; rw [if_neg (by simp only; omega), if_neg h7]
    have q3 : (o == 3) = false := by simp; omega
    have q4 : (o == 4) = false := by simp; omega
    have q5 : (o == 5) = false := by simp; omega
    have q6 : (o == 6) = false := by simp; omega
    have q7 : (o == 7) = false := by simp; omega
    clear ha hb h36 h7
    go_enter Try.func84, Try.ntmps84
    go_wp2
    go_ret2
    exact ⟨by rw [HZ.out.1, HZ.out.2]; rfl, Ext.one _ _⟩

theorem none_iff {s : ByteArray} : s.toList = [] ↔ s = noText := by
  rw [ByteArray.toList_eq]
  constructor
  · intro h
    exact ByteArray.ext (Array.toList_inj.1 h)
  · intro h
    rw [h]
    rfl

theorem eqText (a b : ByteArray) : (a.toList == b.toList) = decide (a = b) := by
  by_cases h : a = b
  · subst h; simp
  · rw [decide_eq_false h, beq_eq_false_iff_ne, ByteArray.toList_eq, ByteArray.toList_eq]
    exact fun e => h (ByteArray.ext (Array.toList_inj.1 e))

def askB (o : Int) : Bool := decide (3 ≤ o) && decide (o ≤ 6)

theorem askB_true {o : Int} : askB o = true ↔ askP o := by unfold askB askP; simp

theorem askB_false {o : Int} : askB o = false ↔ ¬ askP o := by rw [← askB_true]; simp

theorem iPlace_any (l : Ln) (w : World) : Calls Try.prog 49 #[l.val] w fun e w' => e = .returned (.bool (l.wd.1 == 0)) ∧ Ext w w' := by
  obtain ⟨lab, ⟨o, k, y, n⟩, yes, no⟩ := l
  show Calls Try.prog 49 #[.agg #[.string lab, .int .i64 o, .int .i64 k, .int .i64 y, .int .i64 n, .string yes, .string no]] w fun e w' => e = .returned (.bool (o == 0)) ∧ Ext w w'
  go_enter Try.func49, Try.ntmps49
  go_wp2
  go_ret
  exact ⟨rfl, Ext.one _ _⟩

theorem iAsk_any (l : Ln) (w : World) : Calls Try.prog 72 #[l.val] w fun e w' => e = .returned (.bool (askB l.wd.1)) ∧ Ext w w' := by
  obtain ⟨lab, ⟨o, k, y, n⟩, yes, no⟩ := l
  show Calls Try.prog 72 #[.agg #[.string lab, .int .i64 o, .int .i64 k, .int .i64 y, .int .i64 n, .string yes, .string no]] w fun e w' => e = .returned (.bool (askB o)) ∧ Ext w w'
  have HB : Hid (askB o = (decide (3 ≤ o) && decide (o ≤ 6))) := rfl
  by_cases h0 : 3 ≤ o
  · by_cases h1 : o ≤ 6
    · go_enter Try.func72, Try.ntmps72
      go_wp2
      go_ret
      exact ⟨by rw [HB.out]; simp [h0, h1], Ext.one _ _⟩
    · go_enter Try.func72, Try.ntmps72
      go_wp2
      go_ret
      exact ⟨by rw [HB.out]; simp [h0, h1], Ext.one _ _⟩
  · go_enter Try.func72, Try.ntmps72
    go_wp2
    go_ret
    exact ⟨by rw [HB.out, decide_eq_false (show ¬ 3 ≤ o by omega)]; simp, Ext.one _ _⟩

theorem bare_any (o k y n : Int) (z : Bool) (w : World) (hz : z = true ↔ yesW (o, k, y, n) = 0 ∧ noW (o, k, y, n) = 0) : Calls Try.prog 76 #[.agg #[.int .i64 o, .int .i64 k, .int .i64 y, .int .i64 n]] w fun e w' => e = .returned (.bool z) ∧ Ext w w' := by
  obtain ⟨a, ha⟩ : ∃ a, a = yesW (o, k, y, n) := ⟨_, rfl⟩
  obtain ⟨b, hb⟩ : ∃ b, b = noW (o, k, y, n) := ⟨_, rfl⟩
  rw [← ha, ← hb] at hz
  have HW : Hid (∀ w, Calls Try.prog 84 #[.agg #[.int .i64 o, .int .i64 k, .int .i64 y, .int .i64 n]] w fun e w' => e = .returned (.tuple #[.int .i64 a, .int .i64 b]) ∧ Ext w w') := fun w => by rw [ha, hb]; exact ways_any o k y n w
  have HZ : Hid (z = true ↔ a = 0 ∧ b = 0) := hz
  clear ha hb hz
  by_cases h0 : a = 0
  · by_cases h1 : b = 0
    · obtain rfl : z = true := HZ.out.2 ⟨h0, h1⟩
      subst h0
      subst h1
      go_enter Try.func76, Try.ntmps76
      go_wp2_with fail
      refine (HW.out _).mono ?_
      rintro e w1 ⟨rfl, e1⟩
      go_wp2
      go_ret
      exact ⟨rfl, (Ext.one _ _).trans e1⟩
    · obtain rfl : z = false := by cases z with | false => rfl | true => exact absurd (HZ.out.1 rfl).2 h1
      subst h0
      have q1 : (b == 0) = false := by simpa using h1
      go_enter Try.func76, Try.ntmps76
      go_wp2_with fail
      refine (HW.out _).mono ?_
      rintro e w1 ⟨rfl, e1⟩
      go_wp2
      go_ret
      exact ⟨by simp, (Ext.one _ _).trans e1⟩
  · obtain rfl : z = false := by cases z with | false => rfl | true => exact absurd (HZ.out.1 rfl).1 h0
    have q0 : (a == 0) = false := by simpa using h0
    go_enter Try.func76, Try.ntmps76
    go_wp2_with fail
    refine (HW.out _).mono ?_
    rintro e w1 ⟨rfl, e1⟩
    go_wp2
    go_ret
    exact ⟨by simp, (Ext.one _ _).trans e1⟩

theorem sPlace_any (l : Ln) (w : World) : Calls Try.prog 55 #[l.val] w fun e w' => e = .returned (.bool (decide (l.wd = zeroW))) ∧ Ext w w' := by
  obtain ⟨lab, ⟨o, k, y, n⟩, yes, no⟩ := l
  show Calls Try.prog 55 #[.agg #[.string lab, .int .i64 o, .int .i64 k, .int .i64 y, .int .i64 n, .string yes, .string no]] w fun e w' => e = .returned (.bool (decide ((o, k, y, n) = zeroW))) ∧ Ext w w'
  obtain ⟨z, hz⟩ : ∃ z, z = decide ((o, k, y, n) = zeroW) := ⟨_, rfl⟩
  rw [← hz]
  have HZ : Hid (z = true ↔ o = 0 ∧ k = 0 ∧ y = 0 ∧ n = 0) := by
    show _ ↔ _
    rw [hz]
    unfold zeroW
    simp [Prod.mk.injEq]
  clear hz
  by_cases h0 : o = 0 ∧ k = 0 ∧ y = 0 ∧ n = 0
  · obtain rfl : z = true := HZ.out.2 h0
    obtain ⟨rfl, rfl, rfl, rfl⟩ := h0
    go_enter Try.func55, Try.ntmps55
    go_wp2
    go_ret
    exact ⟨rfl, Ext.one _ _⟩
  · obtain rfl : z = false := by cases z with | false => rfl | true => exact absurd (HZ.out.1 rfl) h0
    have H0 : Hid (¬ (o = 0 ∧ k = 0 ∧ y = 0 ∧ n = 0)) := h0
    clear h0 HZ
    go_enter Try.func55, Try.ntmps55
    go_wp2
    all_goals first
      | exact absurd ⟨by assumption, by assumption, by assumption, by assumption⟩ H0.out
      | (go_ret; exact ⟨rfl, Ext.one _ _⟩)

theorem Try.infoN : (Try.prog.info? 35).map (fun i => (i.zero, i.size, i.bytes)) = some (some (.agg #[.int .i64 0, .int .i64 0, .int .i64 0, .int .i64 0]), 4, 32) := by kernel_rfl

/-- A word is stored into four cells of a row. -/
def put4 (W : World) (g o : Nat) (p : Wd) : World := (((W.setCell ⟨g, o, none⟩ (.int .i64 p.1)).setCell ⟨g, o + 1, none⟩ (.int .i64 p.2.1)).setCell ⟨g, o + 2, none⟩ (.int .i64 p.2.2.1)).setCell ⟨g, o + 3, none⟩ (.int .i64 p.2.2.2)

theorem put4_frozen (W : World) (g o : Nat) (p : Wd) (q : Addr) : (put4 W g o p).frozen? q = W.frozen? q := by unfold put4; simp only [World.frozen?_setCell]

theorem set_same {W : World} {a : Addr} {u : Value} (v : Value) (h : W.cell? a = some u) : (W.setCell a v).cell? a = some v := World.cell?_setCell_same _ _ _ h

theorem set_far {W : World} {a q : Addr} {v : Value} (h : q ≠ a) : (W.setCell a v).cell? q = W.cell? q := World.cell?_setCell_other _ _ _ _ (Ne.symm h)

theorem off_ne {g i j : Nat} (h : i ≠ j) : (⟨g, i, none⟩ : Addr) ≠ ⟨g, j, none⟩ := fun e => h (by injection e)

theorem put4_far (W : World) (g o : Nat) (p : Wd) (q : Addr) (h : ∀ i, i < 4 → q ≠ ⟨g, o + i, none⟩) : (put4 W g o p).cell? q = W.cell? q := by
  unfold put4
  rw [set_far (h 3 (by omega)), set_far (h 2 (by omega)), set_far (h 1 (by omega))]
  exact set_far (h 0 (by omega))

theorem put4_quad (W : World) (g o : Nat) (p q : Wd) (h : Quad W g o q) : Quad (put4 W g o p) g o p := by
  unfold put4
  refine ⟨?_, ?_, ?_, ?_⟩
  · rw [set_far (off_ne (by omega)), set_far (off_ne (by omega)), set_far (off_ne (by omega))]
    exact set_same _ h.1
  · rw [set_far (off_ne (by omega)), set_far (off_ne (by omega))]
    refine set_same (u := .int .i64 q.2.1) _ ?_
    rw [set_far (off_ne (by omega))]
    exact h.2.1
  · rw [set_far (off_ne (by omega))]
    refine set_same (u := .int .i64 q.2.2.1) _ ?_
    rw [set_far (off_ne (by omega)), set_far (off_ne (by omega))]
    exact h.2.2.1
  · refine set_same (u := .int .i64 q.2.2.2) _ ?_
    rw [set_far (off_ne (by omega)), set_far (off_ne (by omega)), set_far (off_ne (by omega))]
    exact h.2.2.2

theorem Below.put4 {B : Nat} {w W : World} (h : Below B w W) {g : Nat} (hg : B ≤ g) (o : Nat) (p : Wd) : Below B w (put4 W g o p) :=
  (((Below.setCell h (show B ≤ g from hg) _).setCell (show B ≤ g from hg) _).setCell (show B ≤ g from hg) _).setCell (show B ≤ g from hg) _

set_option maxRecDepth 100000 in
set_option maxHeartbeats 2000000 in
theorem eqInsS_same (a1 a2 : Option Addr) (c1 c2 : Nat) (ws : List Wd) (w : World) (hl : ws.length ≤ 1048576) (h1 : Words w a1 ws) (h2 : Words w a2 ws) :
    Calls Try.prog 32 #[.slice a1 ws.length c1, .slice a2 ws.length c2] w fun e w' => e = .returned (.bool true) ∧ Below w.heap.size w w' := by
  obtain ⟨n, hn⟩ : ∃ n, n = ws.length := ⟨_, rfl⟩
  have HA : Hid (Words w a1 ws ∧ Words w a2 ws ∧ n = ws.length) := ⟨h1, h2, hn⟩
  rw [← hn]
  have hl' : n ≤ 1048576 := by omega
  clear h1 h2 hn hl
  go_enter Try.func32, Try.ntmps32
  go_wp2_with fail
  go_loopw [5] (fun i wr => ∃ k : Nat, i = .int .i64 k ∧ k ≤ n ∧ Below w.heap.size w wr) (fun i _ => n - (intOf i).toNat)
  case atStart => exact ⟨0, rfl, by omega, Below.refl _ _⟩
  case round =>
    obtain ⟨k, rfl, hk, hb⟩ := hrel
    by_cases hlt : k < n
    · have bk : (k : Int) < (n : Int) := by omega
      obtain ⟨⟨o, kk, y, nn⟩, hp⟩ : ∃ p, p = ws.getD k zeroW := ⟨_, rfl⟩
      obtain ⟨b1, o1, rfl, p1⟩ := (HA.out.1.below hb (Nat.le_refl _)).quad (k := k) (by have := HA.out.2.2; omega) hp
      obtain ⟨b2, o2, rfl, p2⟩ := (HA.out.2.1.below hb (Nat.le_refl _)).quad (k := k) (by have := HA.out.2.2; omega) hp
      clear hp
      have HB : Hid (Below w.heap.size w wr) := hb
      clear hb
      go_wp2_with fail
      refine' wp_region_loose (.inl _ :: .inl _ :: .inl _ :: .inl _ :: .inl _ :: .inl _ :: .inl _ :: .inl _ :: .inl _ :: .inl _ :: []) (fun w' => Quad w' b1 (o1 + k * 4) (o, kk, y, nn) ∧ Quad w' b2 (o2 + k * 4) (o, kk, y, nn)) (by kernel_rfl) (by kernel_rfl) (⟨p1, p2⟩) (fun _ _ h hE => ⟨h.1.below hE h.1.lt, h.2.below hE h.2.lt⟩) ?hAa ?hla ?hMa
      case' hMa => skip
      apply wpLoose_val rfl rfl
      case hs =>
        intro w1 hC hd Q1 hQ1
        obtain ⟨hE, hS⟩ := hC
        dsimp only [bare]
        obtain ⟨⟨q1, q2, q3, q4⟩, ⟨q5, q6, q7, q8⟩⟩ := hS; simp only at q1 q2 q3 q4 q5 q6 q7 q8
        clear hd hE
        try clear hS
        go_wp2
        exact Ext.refl _
      case ha => rfl
      apply wpLoose_val rfl rfl
      case hs =>
        intro w1 hC hd Q1 hQ1
        obtain ⟨hE, hS⟩ := hC
        dsimp only [bare]
        obtain ⟨⟨q1, q2, q3, q4⟩, ⟨q5, q6, q7, q8⟩⟩ := hS; simp only at q1 q2 q3 q4 q5 q6 q7 q8
        clear hd hE
        try clear hS
        go_wp2
        exact Ext.refl _
      case ha => rfl
      apply wpLoose_val rfl rfl
      case hs =>
        intro w1 hC hd Q1 hQ1
        obtain ⟨hE, hS⟩ := hC
        dsimp only [bare]
        obtain ⟨⟨q1, q2, q3, q4⟩, ⟨q5, q6, q7, q8⟩⟩ := hS; simp only at q1 q2 q3 q4 q5 q6 q7 q8
        clear hd hE
        try clear hS
        go_wp2
        exact Ext.refl _
      case ha => rfl
      apply wpLoose_val rfl rfl
      case hs =>
        intro w1 hC hd Q1 hQ1
        obtain ⟨hE, hS⟩ := hC
        dsimp only [bare]
        obtain ⟨⟨q1, q2, q3, q4⟩, ⟨q5, q6, q7, q8⟩⟩ := hS; simp only at q1 q2 q3 q4 q5 q6 q7 q8
        clear hd hE
        try clear hS
        go_wp2
        exact Ext.refl _
      case ha => rfl
      apply wpLoose_val rfl rfl
      case hs =>
        intro w1 hC hd Q1 hQ1
        obtain ⟨hE, hS⟩ := hC
        dsimp only [bare]
        obtain ⟨⟨q1, q2, q3, q4⟩, ⟨q5, q6, q7, q8⟩⟩ := hS; simp only at q1 q2 q3 q4 q5 q6 q7 q8
        clear hd hE
        try clear hS
        go_wp2
        exact Ext.refl _
      case ha => rfl
      apply wpLoose_val rfl rfl
      case hs =>
        intro w1 hC hd Q1 hQ1
        obtain ⟨hE, hS⟩ := hC
        dsimp only [bare]
        obtain ⟨⟨q1, q2, q3, q4⟩, ⟨q5, q6, q7, q8⟩⟩ := hS; simp only at q1 q2 q3 q4 q5 q6 q7 q8
        clear hd hE
        try clear hS
        go_wp2
        exact Ext.refl _
      case ha => rfl
      apply wpLoose_val rfl rfl
      case hs =>
        intro w1 hC hd Q1 hQ1
        obtain ⟨hE, hS⟩ := hC
        dsimp only [bare]
        obtain ⟨⟨q1, q2, q3, q4⟩, ⟨q5, q6, q7, q8⟩⟩ := hS; simp only at q1 q2 q3 q4 q5 q6 q7 q8
        clear hd hE
        try clear hS
        go_wp2
        exact Ext.refl _
      case ha => rfl
      apply wpLoose_val rfl rfl
      case hs =>
        intro w1 hC hd Q1 hQ1
        obtain ⟨hE, hS⟩ := hC
        dsimp only [bare]
        obtain ⟨⟨q1, q2, q3, q4⟩, ⟨q5, q6, q7, q8⟩⟩ := hS; simp only at q1 q2 q3 q4 q5 q6 q7 q8
        clear hd hE
        try clear hS
        go_wp2
        exact Ext.refl _
      case ha => rfl
      apply wpLoose_val rfl rfl
      case hs =>
        intro w1 hC hd Q1 hQ1
        obtain ⟨hE, hS⟩ := hC
        dsimp only [bare]
        clear hd
        go_wp2_with fail
        refine (eqIns_same o kk y nn _).mono ?_
        rintro e w2 ⟨rfl, hb⟩
        go_wp2_with fail
        exact hb
      case ha => rfl
      apply wpLoose_val rfl rfl
      case hs =>
        intro w1 hC hd Q1 hQ1
        obtain ⟨hE, hS⟩ := hC
        dsimp only [bare]
        obtain ⟨⟨q1, q2, q3, q4⟩, ⟨q5, q6, q7, q8⟩⟩ := hS; simp only at q1 q2 q3 q4 q5 q6 q7 q8
        clear hd hE
        try clear hS
        go_wp2
        exact Ext.refl _
      case ha => rfl
      refine wpLoose_nil ?_
      intro wa hEa hSa hFa
      have HB2 : Hid (Below w.heap.size w wa) := (HB.out.drew).trans (Below.mono hEa HB.out.size)
      clear hFa hSa hEa p1 p2 HB
      go_wp2
      go_roundw
      case rel => exact ⟨k + 1, by go_num, by omega, HB2.out⟩
      case measure => simp [intOf]; omega
      case hAa => kernel_rfl
      case hla => exact ⟨trivial, trivial, trivial, trivial, trivial, trivial, trivial, trivial, trivial, trivial, trivial⟩
    · have bk : ¬ ((k : Int) < (n : Int)) := by omega
      go_wp2
      go_ret
      exact ⟨rfl, hb⟩

/-- The cells of words in a row. -/
def flatI (ws : List Wd) : List Value := ws.flatMap fun p => ints4 p.1 p.2.1 p.2.2.1 p.2.2.2

theorem flatI_length : ∀ ws : List Wd, (flatI ws).length = ws.length * 4
  | [] => rfl
  | p :: ws => by
    have := flatI_length ws
    simp only [flatI, List.flatMap_cons, List.length_append, List.length_cons] at *
    rw [this]
    simp [ints4]
    omega

theorem flatI_at : ∀ (ws : List Wd) (j : Nat), j < ws.length → (flatI ws)[j * 4]? = some (.int .i64 (ws.getD j zeroW).1) ∧ (flatI ws)[j * 4 + 1]? = some (.int .i64 (ws.getD j zeroW).2.1) ∧ (flatI ws)[j * 4 + 2]? = some (.int .i64 (ws.getD j zeroW).2.2.1) ∧ (flatI ws)[j * 4 + 3]? = some (.int .i64 (ws.getD j zeroW).2.2.2)
  | p :: ws, 0, _ => by simp [flatI, ints4]
  | p :: ws, j + 1, h => by
    have ih := flatI_at ws j (by simpa using h)
    have e : ∀ i, (flatI (p :: ws))[(j + 1) * 4 + i]? = (flatI ws)[j * 4 + i]? := fun i => by
      have hf : flatI (p :: ws) = ints4 p.1 p.2.1 p.2.2.1 p.2.2.2 ++ flatI ws := by simp [flatI]
      rw [hf, List.getElem?_append_right (by simp [ints4]; omega)]
      congr 1
      simp [ints4]
      omega
    rw [e 1, e 2, e 3, ← Nat.add_zero ((j + 1) * 4), e 0]
    exact ih

/-- These words lie in a row of their own, not below B, which may be written. -/
def Own4 (w : World) (B : Nat) (v : Value) (ws : List Wd) : Prop := w.ownsRow B 35 4 v ws.length (flatI ws)

theorem Own4.words {w : World} {B : Nat} {v : Value} {ws : List Wd} (h : Own4 w B v ws) : ∃ a cap, v = .slice a ws.length cap ∧ ws.length ≤ cap ∧ Words w a ws ∧ (0 < ws.length → ∃ g, a = some ⟨g, 0, none⟩ ∧ B ≤ g ∧ ∀ j, w.frozen? ⟨g, j, none⟩ = false) := by
  have hown : w.ownsRow B 35 4 v ws.length (flatI ws) := h
  rcases h.2 with ⟨rfl, h0⟩ | ⟨g, cap, cur, rfl, hg, hh, hnc, hcp, hcs, htake⟩
  · exact ⟨none, 0, by rw [h0], by omega, fun hp => by omega, fun hp => by omega⟩
  · refine ⟨_, cap, rfl, hnc, fun hp => ⟨g, 0, rfl, fun j hj => ?_⟩, fun hp => ⟨g, rfl, hg, fun j => frozen_of_row w g j cur 35 hh⟩⟩
    obtain ⟨e0, e1, e2, e3⟩ := flatI_at ws j hj
    have cell : ∀ i v, (flatI ws)[i]? = some v → w.cell? ⟨g, i, none⟩ = some v := fun i v hv => by
      have hc := hown.cells (g := g) rfl i v hv
      rwa [Addr.add_lit, Nat.zero_add] at hc
    rw [Nat.zero_add]
    exact ⟨cell _ _ e0, cell _ _ e1, cell _ _ e2, cell _ _ e3⟩

theorem Own4.nil (w : World) (B : Nat) : Own4 w B (.slice none 0 0) [] := World.ownsRow_nil _ _ _ _

theorem Own4.lit (w : World) (B : Nat) (hB : B ≤ w.heap.size) : Own4 (w.alloc (.cells #[] 35)) B (.slice (some ⟨w.heap.size, 0, none⟩) 0 0) [] := World.ownsRow_lit (e := 35) (size := 4) w #[] 0 hB (by decide) rfl

theorem Own4.ext {w w' : World} {B : Nat} {v : Value} {ws : List Wd} (h : Own4 w B v ws) (hE : Ext w w') : Own4 w' B v ws := own_below h hE

theorem Own4.alloc {w : World} {B : Nat} {v : Value} {ws : List Wd} (h : Own4 w B v ws) (o : Obj) : Own4 (w.alloc o) B v ws := World.ownsRow.alloc h o

def markW (j : Nat) : Wd := ((4 * j + 1 : Int), (4 * j + 1 + 1 : Int), (4 * j + 1 + 1 + 1 : Int), (4 * j + 1 + 1 + 1 + 1 : Int))

def marksW (n : Nat) : List Wd := (List.range n).map markW

theorem marksW_length (n : Nat) : (marksW n).length = n := by simp [marksW]

theorem marksW_getD (n j : Nat) (h : j < n) : (marksW n).getD j zeroW = markW j := by simp [marksW, List.getD_eq_getElem?_getD, h]

set_option maxRecDepth 100000 in
set_option maxHeartbeats 2000000 in
theorem mark_some (g n cap B : Nat) (w : World) (hn : n ≤ 1048576) (hB : B ≤ g) (hf : ∀ j, w.frozen? ⟨g, j, none⟩ = false) (hq : ∀ j, j < n → ∃ q, Quad w g (j * 4) q) (hg : g < w.heap.size) :
    Calls Try.prog 33 #[.slice (some ⟨g, 0, none⟩) n cap, .int .i64 1] w fun e w' => e = .returned (.int .i64 (4 * (n : Int) + 1)) ∧ Words w' (some ⟨g, 0, none⟩) (marksW n) ∧ Below B w w' := by
  have HA : Hid ((∀ j, w.frozen? ⟨g, j, none⟩ = false) ∧ (∀ j, j < n → ∃ q, Quad w g (j * 4) q) ∧ B ≤ g ∧ g < w.heap.size) := ⟨hf, hq, hB, hg⟩
  clear hf hq hB hg
  go_enter Try.func33, Try.ntmps33
  go_wp2_with fail
  go_loopw [1, 5] (fun kv i wr => ∃ (j : Nat) (K : Int), i = .int .i64 j ∧ kv = .int .i64 K ∧ j ≤ n ∧ K ≤ 5000000 ∧ 0 ≤ K ∧ Hid (K = 4 * (j : Int) + 1 ∧ Below B w wr ∧ (∀ j, wr.frozen? ⟨g, j, none⟩ = false) ∧ (∀ i, i < n → ∃ q, Quad wr g (i * 4) q ∧ (i < j → q = markW i)))) (fun _ i _ => n - (intOf i).toNat)
  case atStart => exact ⟨0, 1, rfl, rfl, by omega, by omega, by omega, rfl, Below.refl _ _, HA.out.1, fun i hi => by obtain ⟨q, h⟩ := HA.out.2.1 i hi; exact ⟨q, h, fun h => by omega⟩⟩
  case round =>
    obtain ⟨j, K, rfl, rfl, hj, hK, hK0, HR⟩ := hrel
    by_cases hlt : j < n
    · have bk : (j : Int) < (n : Int) := by omega
      obtain ⟨q, ⟨c0, c1, c2, c3⟩, _⟩ := HR.out.2.2.2 j hlt
      have f := HR.out.2.2.1
      go_wp2
      go_roundw
      case rel =>
        obtain ⟨hKe, hb, hfr, hcell⟩ := HR.out
        refine ⟨j + 1, K + 1 + 1 + 1 + 1, by go_num, rfl, by omega, by omega, by omega, by omega, Below.put4 hb HA.out.2.2.1 (j * 4) (K, K + 1, K + 1 + 1, K + 1 + 1 + 1), fun x => (put4_frozen wr g (j * 4) (K, K + 1, K + 1 + 1, K + 1 + 1 + 1) _).trans (hfr x), fun i hi => ?_⟩
        obtain ⟨q', e1, e2⟩ := hcell i hi
        by_cases hij : i = j
        · subst hij
          exact ⟨_, put4_quad wr g (i * 4) (K, K + 1, K + 1 + 1, K + 1 + 1 + 1) q' e1, fun _ => by rw [hKe]; rfl⟩
        · have hf := put4_far wr g (j * 4) (K, K + 1, K + 1 + 1, K + 1 + 1 + 1)
          exact ⟨q', ⟨(hf _ (fun x hx => off_ne (by omega))).trans e1.1, (hf _ (fun x hx => off_ne (by omega))).trans e1.2.1, (hf _ (fun x hx => off_ne (by omega))).trans e1.2.2.1, (hf _ (fun x hx => off_ne (by omega))).trans e1.2.2.2⟩, fun h => e2 (by omega)⟩
      case measure => simp [intOf]; omega
    · have bk : ¬ ((j : Int) < (n : Int)) := by omega
      have hjn : j = n := by omega
      subst hjn
      go_wp2
      go_ret
      refine ⟨ret_int HR.out.1, fun hp => ⟨g, 0, rfl, fun i hi => ?_⟩, HR.out.2.1⟩
      rw [marksW_length] at hi
      obtain ⟨q, e1, e2⟩ := HR.out.2.2.2 i hi
      rw [marksW_getD _ _ hi, ← e2 hi, Nat.zero_add]
      exact e1

theorem mark_none (a : Option Addr) (cap : Nat) (w : World) : Calls Try.prog 33 #[.slice a 0 cap, .int .i64 1] w fun e w' => e = .returned (.int .i64 1) ∧ w = w' := by
  go_enter Try.func33, Try.ntmps33
  go_wp2_with fail
  go_loopw [1, 5] (fun kv i wr => i = .int .i64 0 ∧ kv = .int .i64 1 ∧ w = wr) (fun _ i _ => 0)
  case atStart => exact ⟨rfl, rfl, rfl⟩
  case round =>
    obtain ⟨rfl, rfl, rfl⟩ := hrel
    go_wp2
    go_ret
    exact ⟨rfl, rfl⟩

theorem markIns_any (B : Nat) (v : Value) (ws : List Wd) (w : World) (hn : ws.length ≤ 1048576) (h : Own4 w B v ws) :
    Calls Try.prog 33 #[v, .int .i64 1] w fun e w' => e = .returned (.int .i64 (4 * (ws.length : Int) + 1)) ∧ (∃ a cap, v = .slice a ws.length cap ∧ Words w' a (marksW ws.length)) ∧ Below B w w' := by
  obtain ⟨a, cap, rfl, _, hw, hg⟩ := h.words
  by_cases h0 : ws.length = 0
  · rw [h0]
    refine (mark_none a cap w).mono ?_
    rintro e w' ⟨rfl, rfl⟩
    exact ⟨rfl, ⟨a, cap, rfl, fun hp => by simp [marksW] at hp⟩, Below.refl _ _⟩
  · obtain ⟨g, rfl, hB, hf⟩ := hg (by omega)
    obtain ⟨b, off, hb, hq⟩ := hw (by omega)
    injection hb with hb
    injection hb with h1 h2
    subst h1 h2
    refine (mark_some g ws.length cap B w hn hB hf (fun j hj => ⟨_, by have := hq j hj; rwa [Nat.zero_add] at this⟩) (by have := (hq 0 (by omega)).lt; exact this)).mono ?_
    rintro e w' ⟨rfl, hw', hb⟩
    exact ⟨rfl, ⟨_, cap, rfl, hw'⟩, hb⟩

set_option maxRecDepth 100000 in
set_option maxHeartbeats 2000000 in
theorem heldIns_any (a : Option Addr) (n cap : Nat) (w : World) (hn : n ≤ 1048576) (h : Words w a (marksW n)) :
    Calls Try.prog 34 #[.slice a n cap, .int .i64 1] w fun e w' => e = .returned (.int .i64 (4 * (n : Int) + 1)) ∧ w = w' := by
  have HA : Hid (Words w a (marksW n)) := h
  clear h
  go_enter Try.func34, Try.ntmps34
  go_wp2_with fail
  go_loopw [1, 5] (fun kv i wr => ∃ (j : Nat) (K : Int), i = .int .i64 j ∧ kv = .int .i64 K ∧ j ≤ n ∧ K ≤ 5000000 ∧ 0 ≤ K ∧ Hid (K = 4 * (j : Int) + 1) ∧ w = wr) (fun _ i _ => n - (intOf i).toNat)
  case atStart => exact ⟨0, 1, rfl, rfl, by omega, by omega, by omega, rfl, rfl⟩
  case round =>
    obtain ⟨j, K, rfl, rfl, hj, hK, hK0, HK, rfl⟩ := hrel
    by_cases hlt : j < n
    · have bk : (j : Int) < (n : Int) := by omega
      obtain ⟨b, off, rfl, hq⟩ := HA.out.quad (k := j) (by rw [marksW_length]; exact hlt) (marksW_getD n j hlt).symm
      have hm : markW j = (K, K + 1, K + 1 + 1, K + 1 + 1 + 1) := by rw [HK.out]; rfl
      rw [hm] at hq
      obtain ⟨c0, c1, c2, c3⟩ := hq
      simp only at c0 c1 c2 c3
      clear hm
      go_wp2
      go_roundw
      case rel => exact ⟨j + 1, K + 1 + 1 + 1 + 1, by go_num, rfl, by omega, by have := HK.out; omega, by omega, by have := HK.out; unfold Hid; omega, trivial⟩
      case measure => simp [intOf]; omega
    · have bk : ¬ ((j : Int) < (n : Int)) := by omega
      have hjn : j = n := by omega
      subst hjn
      go_wp2
      go_ret
      exact ⟨ret_int HK.out, rfl⟩

end Go.Proofs.Ytakcmiijnckaaaa
