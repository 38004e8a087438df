/- Plain facts on conditions, rules and policies: what is right, what holds of a call, what is decided. -/
import Derived.Test.YthflflhcbnianaaDoorRows
import Derived.Test.YthflflhcbnianaaDoorCrPack2
import Derived.Test.YthflflhcbnianaaDoorCrPack5
import Derived.WalkKit
import Derived.WalkSpells
import Derived.WalkSmall
import Derived.Below
import Derived.Laws.StructEq
import Derived.ChangeKeysEq
/- What impl's and spec's functions of one chapter answer: HalfOk, WideOk, WideCmp, WideAnd, of any numbers. -/
namespace Go.Proofs.YthflflhcbnianaaDoor
open Go.RowKit
set_option linter.unusedVariables false

theorem iHalf4_any (n : Int) (w : World) : Calls Tryd.prog 100 #[.int .i64 n] w fun e w' => e = .returned (.bool (halfB n)) ∧ w = w' := by
  obtain ⟨b, hb⟩ : ∃ b, b = halfB n := ⟨_, rfl⟩
  rw [← hb]
  have HB : Hid (b = halfB n) := hb
  clear hb
  by_cases h0 : 0 ≤ n
  · by_cases h1 : n ≤ 4294967295
    · go_enter Tryd.func100, Tryd.ntmps100
      go_wp2
      go_ret
      exact ⟨by rw [HB.out, halfB_true.2 ⟨h0, h1⟩]; simp, rfl⟩
    · go_enter Tryd.func100, Tryd.ntmps100
      go_wp2
      go_ret
      exact ⟨by rw [HB.out, halfB_false.2 (by omega)]; simp, rfl⟩
  · go_enter Tryd.func100, Tryd.ntmps100
    go_wp2
    go_ret
    exact ⟨by rw [HB.out, halfB_false.2 (by omega)]; simp, rfl⟩

/-- In lo .. hi. -/
def inB4 (n lo hi : Int) : Bool := decide (lo ≤ n) && decide (n ≤ hi)

theorem in4_any (n lo hi : Int) (w : World) : Calls Tryd.prog 47 #[.int .i64 n, .int .i64 lo, .int .i64 hi] w fun e w' => e = .returned (.bool (inB4 n lo hi)) ∧ w = w' := by
  have HB : Hid (inB4 n lo hi = (decide (lo ≤ n) && decide (n ≤ hi))) := rfl
  by_cases h0 : lo ≤ n
  · by_cases h1 : n ≤ hi
    · go_enter Tryd.func47, Tryd.ntmps47
      go_wp2
      go_ret
      exact ⟨by rw [HB.out]; simp [h0, h1], rfl⟩
    · go_enter Tryd.func47, Tryd.ntmps47
      go_wp2
      go_ret
      exact ⟨by rw [HB.out]; simp [h0, h1], rfl⟩
  · go_enter Tryd.func47, Tryd.ntmps47
    go_wp2
    go_ret
    exact ⟨by rw [HB.out, decide_eq_false (show ¬ lo ≤ n by omega)]; simp, rfl⟩

theorem sHalf4_any (n : Int) (w : World) : Calls Tryd.prog 79 #[.int .i64 n] w fun e w' => e = .returned (.bool (halfB n)) ∧ w = w' := by
  go_enter Tryd.func79, Tryd.ntmps79
  go_wp2_with (go_at_call 47; refine (in4_any _ _ _ _).mono ?_; rintro e w' ⟨rfl, rfl⟩)
  go_ret
  exact ⟨rfl, rfl⟩

theorem iWide_any (a b : Int) (w : World) : Calls Tryd.prog 92 #[.agg #[.int .i64 a, .int .i64 b]] w fun e w' => e = .returned (.bool (wideB (a, b))) ∧ Below w.heap.size w w' := by
  have HB : Hid (wideB (a, b) = (halfB a && halfB b)) := rfl
  cases h0 : halfB a
  · go_enter Tryd.func92, Tryd.ntmps92
    go_wp2_with (go_at_call 100; refine (iHalf4_any _ _).mono ?_; rintro e w' ⟨rfl, rfl⟩)
    go_ret
    exact ⟨by rw [HB.out, h0]; simp, (Below.refl _ _).alloc (Nat.le_refl _) _⟩
  · go_enter Tryd.func92, Tryd.ntmps92
    go_wp2_with (go_at_call 100; refine (iHalf4_any _ _).mono ?_; rintro e w' ⟨rfl, rfl⟩)
    go_ret
    exact ⟨by rw [HB.out, h0]; simp, (Below.refl _ _).alloc (Nat.le_refl _) _⟩

theorem sWide_any (a b : Int) (w : World) : Calls Tryd.prog 68 #[.agg #[.int .i64 a, .int .i64 b]] w fun e w' => e = .returned (.bool (wideB (a, b))) ∧ Below w.heap.size w w' := by
  have HB : Hid (wideB (a, b) = (halfB a && halfB b)) := rfl
  cases h0 : halfB a
  · go_enter Tryd.func68, Tryd.ntmps68
    go_wp2_with (go_at_call 79; refine (sHalf4_any _ _).mono ?_; rintro e w' ⟨rfl, rfl⟩)
    go_ret
    exact ⟨by rw [HB.out, h0]; simp, (Below.refl _ _).alloc (Nat.le_refl _) _⟩
  · go_enter Tryd.func68, Tryd.ntmps68
    go_wp2_with (go_at_call 79; refine (sHalf4_any _ _).mono ?_; rintro e w' ⟨rfl, rfl⟩)
    go_ret
    exact ⟨by rw [HB.out, h0]; simp, (Below.refl _ _).alloc (Nat.le_refl _) _⟩

theorem cmp_any (a b : Int) (w : World) : Calls Tryd.prog 83 #[.int .i64 a, .int .i64 b] w fun e w' => e = .returned (.int .i64 (cmpI a b)) ∧ w = w' := by
  obtain ⟨z, hz⟩ : ∃ z, z = cmpI a b := ⟨_, rfl⟩
  rw [← hz]
  have HZ : Hid (z = cmpI a b) := hz
  clear hz
  by_cases h1 : a < b
  · go_enter Tryd.func83, Tryd.ntmps83
    go_wp2
    go_ret
    exact ⟨by rw [HZ.out, cmpI, if_pos (by omega)]; rfl, rfl⟩
  · by_cases h2 : b < a
    · go_enter Tryd.func83, Tryd.ntmps83
      go_wp2
      go_ret
      exact ⟨by rw [HZ.out, cmpI, if_neg (by omega), if_pos (by omega)]; rfl, rfl⟩
    · go_enter Tryd.func83, Tryd.ntmps83
      go_wp2
      go_ret
      exact ⟨by rw [HZ.out, cmpI, if_neg (by omega), if_neg (by omega)]; rfl, rfl⟩

theorem cmpW_if (a b c d : Int) : cmpW (a, b) (c, d) = if cmpI a c = 0 then cmpI b d else cmpI a c := by
  simp only [cmpW]
  by_cases h1 : a < c
  · have : cmpI a c = -1 := by simp [cmpI, h1]
    simp [h1, this]
  · by_cases h2 : c < a
    · have : cmpI a c = 1 := by simp [cmpI, h1, h2]
      simp [h1, h2, this]
    · have : cmpI a c = 0 := by simp [cmpI, h1, h2]
      simp [h1, h2, this]

set_option maxHeartbeats 800000 in
theorem sCmp_any (a b c d : Int) (w : World) : Calls Tryd.prog 49 #[.agg #[.int .i64 a, .int .i64 b], .agg #[.int .i64 c, .int .i64 d]] w fun e w' => e = .returned (.int .i64 (cmpW (a, b) (c, d))) ∧ Below w.heap.size w w' := by
  have bel : Hid (Below w.heap.size w ((w.alloc (.cells #[.int .i64 a, .int .i64 b] 25)).alloc (.cells #[.int .i64 c, .int .i64 d] 25))) := ((Below.refl _ _).alloc (Nat.le_refl _) _).alloc (by simp) _
  have HZ : Hid (cmpW (a, b) (c, d) = if cmpI a c = 0 then cmpI b d else cmpI a c) := cmpW_if a b c d
  by_cases h : cmpI a c = 0
  · have HH : Hid (cmpI a c = 0) := h
    have hq : (cmpI a c == 0) = true := by simpa using h
    clear h
    go_enter Tryd.func49, Tryd.ntmps49
    go_wp2_with (go_at_call 83; refine (cmp_any _ _ _).mono ?_; rintro e w' ⟨rfl, rfl⟩)
    go_ret
    exact ⟨by rw [HZ.out, if_pos HH.out]; rfl, bel.out⟩
  · have HH : Hid (¬ cmpI a c = 0) := h
    have hq : (cmpI a c == 0) = false := by simpa using h
    clear h
    go_enter Tryd.func49, Tryd.ntmps49
    go_wp2_with (go_at_call 83; refine (cmp_any _ _ _).mono ?_; rintro e w' ⟨rfl, rfl⟩)
    go_ret
    exact ⟨by rw [HZ.out, if_neg HH.out]; rfl, bel.out⟩

/-- Half by half, bit by bit; nothing when one is not right. -/
def andW (p q : Int × Int) : Int × Int := if wideB p && wideB q then (bits .and .i64 p.1 q.1, bits .and .i64 p.2 q.2) else (0, 0)

theorem andW_yes {a b c d : Int} (h : wideB (a, b) = true) (k : wideB (c, d) = true) : andW (a, b) (c, d) = (bits .and .i64 a c, bits .and .i64 b d) := by simp [andW, h, k]

theorem andW_no1 {a b c d : Int} (h : wideB (a, b) = false) : andW (a, b) (c, d) = (0, 0) := by simp [andW, h]

theorem andW_no2 {a b c d : Int} (h : wideB (c, d) = false) : andW (a, b) (c, d) = (0, 0) := by simp [andW, h]

theorem bcell {W w1 : World} (hb : Below W.heap.size W w1) : (∀ b o, b < W.heap.size → w1.cell? ⟨b, o, none⟩ = W.cell? ⟨b, o, none⟩) ∧ (∀ b o, b < W.heap.size → w1.frozen? ⟨b, o, none⟩ = W.frozen? ⟨b, o, none⟩) :=
  ⟨fun b o h => hb.cell (p := ⟨b, o, none⟩) h, fun b o h => hb.frozen (p := ⟨b, o, none⟩) h⟩

set_option maxHeartbeats 1600000 in
theorem sAnd_any (a b c d : Int) (w : World) : Calls Tryd.prog 32 #[.agg #[.int .i64 a, .int .i64 b], .agg #[.int .i64 c, .int .i64 d]] w fun e w' => e = .returned (.agg #[.int .i64 (andW (a, b) (c, d)).1, .int .i64 (andW (a, b) (c, d)).2]) ∧ Below w.heap.size w w' := by
  obtain ⟨W, hW⟩ : ∃ W, W = (((w.alloc (.cells #[.int .i64 a, .int .i64 b] 25)).alloc (.cells #[.int .i64 c, .int .i64 d] 25)).alloc (.cells #[.int .i64 0, .int .i64 0] 25)) := ⟨_, rfl⟩
  have sz : Hid (W.heap.size = w.heap.size + 1 + 1 + 1) := by unfold Hid; rw [hW]; simp
  have bel : Hid (Below w.heap.size w W) := by rw [hW]; exact (((Below.refl _ _).alloc (Nat.le_refl _) _).alloc (by simp) _).alloc (by simp; omega) _
  cases h0 : wideB (a, b)
  · rw [andW_no1 h0]
    go_enter Tryd.func32, Tryd.ntmps32
    go_wp2_with fail
    refine (sWide_any a b _).mono ?_
    rintro e w1 ⟨rfl, hb⟩
    have hb' : Hid (Below W.heap.size W w1) := by rw [hW]; exact hb
    obtain ⟨hc, hf⟩ := bcell hb
    rw [h0]
    go_wp2
    refine bodyPost_ret (v := .agg #[.int .i64 0, .int .i64 0]) (by simp [results, Tryd.results32, go_sem, hc]) rfl ⟨rfl, ?_⟩
    exact ((bel.out.trans (hb'.out.mono (by rw [sz.out]; omega))).setCell (by simp; omega) _).setCell (by simp; omega) _
  · cases h1 : wideB (c, d)
    · rw [andW_no2 h1]
      go_enter Tryd.func32, Tryd.ntmps32
      go_wp2_with fail
      refine (sWide_any a b _).mono ?_
      rintro e w1 ⟨rfl, hb⟩
      have hb' : Hid (Below W.heap.size W w1) := by rw [hW]; exact hb
      have hz1 : w.heap.size + 1 + 1 < w1.heap.size := by have := hb'.out.size; rw [sz.out] at this; omega
      obtain ⟨hc, hf⟩ := bcell hb
      rw [h0]
      go_wp2_with fail
      refine (sWide_any c d _).mono ?_
      rintro e w2 ⟨rfl, hb2⟩
      have hb2' : Hid (Below w1.heap.size w1 w2) := hb2
      obtain ⟨hc2, hf2⟩ := bcell hb2
      rw [h1]
      go_wp2
      refine bodyPost_ret (v := .agg #[.int .i64 0, .int .i64 0]) (by simp [results, Tryd.results32, go_sem, hc, hc2, hz1]) rfl ⟨rfl, ?_⟩
      exact (((bel.out.trans (hb'.out.mono (by rw [sz.out]; omega))).trans (hb2'.out.mono (by omega))).setCell (by simp; omega) _).setCell (by simp; omega) _
    · rw [andW_yes h0 h1]
      go_enter Tryd.func32, Tryd.ntmps32
      go_wp2_with fail
      refine (sWide_any a b _).mono ?_
      rintro e w1 ⟨rfl, hb⟩
      have hb' : Hid (Below W.heap.size W w1) := by rw [hW]; exact hb
      have hz1 : w.heap.size + 1 + 1 < w1.heap.size := by have := hb'.out.size; rw [sz.out] at this; omega
      have hz2 : w.heap.size + 1 < w1.heap.size := by omega
      have hz3 : w.heap.size < w1.heap.size := by omega
      obtain ⟨hc, hf⟩ := bcell hb
      rw [h0]
      go_wp2_with fail
      refine (sWide_any c d _).mono ?_
      rintro e w2 ⟨rfl, hb2⟩
      have hb2' : Hid (Below w1.heap.size w1 w2) := hb2
      obtain ⟨hc2, hf2⟩ := bcell hb2
      rw [h1]
      go_wp2
      refine bodyPost_ret (v := .agg #[.int .i64 (bits .and .i64 a c), .int .i64 (bits .and .i64 b d)]) (by simp [results, Tryd.results32, go_sem, hc, hc2, hz1]) rfl ⟨rfl, ?_⟩
      exact (((bel.out.trans (hb'.out.mono (by rw [sz.out]; omega))).trans (hb2'.out.mono (by omega))).setCell (by simp; omega) _).setCell (by simp; omega) _

theorem two_below {w w' : World} {B g : Nat} {a b c d : Int} (h : (w.cell? ⟨g, 0, none⟩ = some (.int .i64 a) ∧ w.cell? ⟨g, 1, none⟩ = some (.int .i64 b) ∧ w.cell? ⟨g + 1, 0, none⟩ = some (.int .i64 c) ∧ w.cell? ⟨g + 1, 1, none⟩ = some (.int .i64 d))) (hb : Below B w w') (hB : g + 1 < B) : (w'.cell? ⟨g, 0, none⟩ = some (.int .i64 a) ∧ w'.cell? ⟨g, 1, none⟩ = some (.int .i64 b) ∧ w'.cell? ⟨g + 1, 0, none⟩ = some (.int .i64 c) ∧ w'.cell? ⟨g + 1, 1, none⟩ = some (.int .i64 d)) :=
  ⟨(hb.cell (p := ⟨g, 0, none⟩) (show g < B by omega)).trans h.1, (hb.cell (p := ⟨g, 1, none⟩) (show g < B by omega)).trans h.2.1, (hb.cell (p := ⟨g + 1, 0, none⟩) hB).trans h.2.2.1, (hb.cell (p := ⟨g + 1, 1, none⟩) hB).trans h.2.2.2⟩

theorem two_new (w : World) (a b c d : Int) (g : Nat) (hg : g = w.heap.size) (t : TypeId) : (((w.alloc (.cells #[.int .i64 a, .int .i64 b] t)).alloc (.cells #[.int .i64 c, .int .i64 d] t)).cell? ⟨g, 0, none⟩ = some (.int .i64 a) ∧ ((w.alloc (.cells #[.int .i64 a, .int .i64 b] t)).alloc (.cells #[.int .i64 c, .int .i64 d] t)).cell? ⟨g, 1, none⟩ = some (.int .i64 b) ∧ ((w.alloc (.cells #[.int .i64 a, .int .i64 b] t)).alloc (.cells #[.int .i64 c, .int .i64 d] t)).cell? ⟨g + 1, 0, none⟩ = some (.int .i64 c) ∧ ((w.alloc (.cells #[.int .i64 a, .int .i64 b] t)).alloc (.cells #[.int .i64 c, .int .i64 d] t)).cell? ⟨g + 1, 1, none⟩ = some (.int .i64 d)) := by
  subst hg; simp [go_sem]

/-- Behind w two wide numbers were boxed; nothing below has turned since. -/
def Inv (w : World) (a b c d : Int) (W : World) : Prop := Below w.heap.size w W ∧ w.heap.size + 1 < W.heap.size ∧ (W.cell? ⟨w.heap.size, 0, none⟩ = some (.int .i64 a) ∧ W.cell? ⟨w.heap.size, 1, none⟩ = some (.int .i64 b) ∧ W.cell? ⟨w.heap.size + 1, 0, none⟩ = some (.int .i64 c) ∧ W.cell? ⟨w.heap.size + 1, 1, none⟩ = some (.int .i64 d))

theorem Inv.step {w W W' : World} {a b c d : Int} (h : Inv w a b c d W) (hb : Below W.heap.size W W') : Inv w a b c d W' :=
  ⟨h.1.trans (hb.mono h.1.size), Nat.lt_of_lt_of_le h.2.1 hb.size, two_below h.2.2 hb h.2.1⟩

theorem Inv.alloc {w W : World} {a b c d : Int} (h : Inv w a b c d W) (o : Obj) : Inv w a b c d (W.alloc o) := h.step ((Below.refl W.heap.size W).alloc (Nat.le_refl _) o)

theorem Inv.drew {w W : World} {a b c d : Int} (h : Inv w a b c d W) : Inv w a b c d W.drew := ⟨h.1.drew, h.2.1, h.2.2⟩

theorem Inv.new (w : World) (a b c d : Int) (t : TypeId) : Inv w a b c d ((w.alloc (.cells #[.int .i64 a, .int .i64 b] t)).alloc (.cells #[.int .i64 c, .int .i64 d] t)) :=
  ⟨((Below.refl _ _).alloc (Nat.le_refl _) _).alloc (by simp) _, by simp, two_new w a b c d w.heap.size rfl t⟩

theorem Inv.set {w W : World} {a b c d : Int} (h : Inv w a b c d W) {g : Nat} (hg : w.heap.size + 1 < g) (j : Nat) (v : Value) : Inv w a b c d (W.setCell ⟨g, j, none⟩ v) := by
  have hb : Below g W (W.setCell ⟨g, j, none⟩ v) := (Below.refl g W).setCell (Nat.le_refl _) _
  exact ⟨h.1.setCell (show w.heap.size ≤ g by omega) _, by rw [World.size_setCell]; exact h.2.1, two_below h.2.2 hb hg⟩

/-- Block g is a box of two numbers, which may be written. -/
def Box (W : World) (g : Nat) (x y : Int) : Prop := g < W.heap.size ∧ (W.cell? ⟨g, 0, none⟩ = some (.int .i64 x) ∧ W.cell? ⟨g, 1, none⟩ = some (.int .i64 y)) ∧ (W.frozen? ⟨g, 0, none⟩ = false ∧ W.frozen? ⟨g, 1, none⟩ = false)

theorem Box.new (W : World) (x y : Int) (t : TypeId) : Box (W.alloc (.cells #[.int .i64 x, .int .i64 y] t)) W.heap.size x y := ⟨by simp, by simp [go_sem], by simp [go_sem]⟩

theorem Box.step {W W' : World} {g : Nat} {x y : Int} (h : Box W g x y) (hb : Below W.heap.size W W') : Box W' g x y :=
  ⟨Nat.lt_of_lt_of_le h.1 hb.size, ⟨(hb.cell (p := ⟨g, 0, none⟩) h.1).trans h.2.1.1, (hb.cell (p := ⟨g, 1, none⟩) h.1).trans h.2.1.2⟩, ⟨(hb.frozen (p := ⟨g, 0, none⟩) h.1).trans h.2.2.1, (hb.frozen (p := ⟨g, 1, none⟩) h.1).trans h.2.2.2⟩⟩

theorem Box.drew {W : World} {g : Nat} {x y : Int} (h : Box W g x y) : Box W.drew g x y := h

theorem Box.alloc {W : World} {g : Nat} {x y : Int} (h : Box W g x y) (o : Obj) : Box (W.alloc o) g x y := h.step ((Below.refl W.heap.size W).alloc (Nat.le_refl _) o)

/-- The wide numbers ws lie in memory behind the address a, two cells each. -/
def Wides (w : World) (a : Option Addr) (ws : List (Int × Int)) : Prop :=
  0 < ws.length → ∃ b off, a = some ⟨b, off, none⟩ ∧ b < w.heap.size ∧ ∀ j, j < ws.length →
    w.cell? ⟨b, off + j * 2, none⟩ = some (.int .i64 (ws.getD j (0, 0)).1) ∧ w.cell? ⟨b, off + j * 2 + 1, none⟩ = some (.int .i64 (ws.getD j (0, 0)).2)

theorem Wides.below {w w' : World} {a : Option Addr} {ws : List (Int × Int)} {B : Nat} (h : Wides w a ws) (hb : Below B w w') (hB : w.heap.size ≤ B) : Wides w' a ws := by
  intro hp
  obtain ⟨b, off, rfl, hlt, hc⟩ := h hp
  refine ⟨b, off, rfl, by have := hb.size; omega, fun j hj => ?_⟩
  obtain ⟨c0, c1⟩ := hc j hj
  exact ⟨(hb.cell (p := ⟨b, off + j * 2, none⟩) (show b < B by omega)).trans c0, (hb.cell (p := ⟨b, off + j * 2 + 1, none⟩) (show b < B by omega)).trans c1⟩

theorem callB_all {arch num : Int} {ws : List (Int × Int)} (h0 : halfB arch = true) (h1 : halfB num = true) (h : ws.length = 3) : callB arch num ws = ws.all wideB := by simp [callB, h0, h1, h]

theorem all_no {ws : List (Int × Int)} {k : Nat} (hk : k < ws.length) (h : wideB (ws.getD k (0, 0)) = false) : ws.all wideB = false := by
  rw [Bool.eq_false_iff]
  intro ha
  have := List.all_eq_true.1 ha (ws.getD k (0, 0)) (by rw [List.getD_eq_getElem?_getD, List.getElem?_eq_getElem hk]; exact List.getElem_mem hk)
  rw [h] at this
  exact Bool.noConfusion this

set_option maxRecDepth 100000 in
set_option maxHeartbeats 1600000 in
theorem sCall_any (arch num : Int) (a : Option Addr) (cap : Nat) (ws : List (Int × Int)) (w : World) (hl : ws.length ≤ 1048576) (h : Wides w a ws) :
    Calls Tryd.prog 40 #[.agg #[.int .i64 arch, .int .i64 num, .slice a ws.length cap]] w fun e w' => e = .returned (.bool (callB arch num ws)) ∧ Below w.heap.size w w' := by
  obtain ⟨n, hn⟩ : ∃ n, n = ws.length := ⟨_, rfl⟩
  rw [← hn] at hl ⊢
  have HN : Hid (n = ws.length) := hn
  have HWD : Hid (Wides w a ws) := h
  clear hn h
  obtain ⟨W, hW⟩ : ∃ W, W = w.alloc (.cells #[.int .i64 arch, .int .i64 num, .slice a n cap] 30) := ⟨_, rfl⟩
  have sz : Hid (W.heap.size = w.heap.size + 1) := by unfold Hid; rw [hW]; simp
  have bel : Hid (Below w.heap.size w W) := by rw [hW]; exact (Below.refl _ _).alloc (Nat.le_refl _) _
  have HW : Hid (W = w.alloc (.cells #[.int .i64 arch, .int .i64 num, .slice a n cap] 30)) := hW
  have HWW : Hid (Wides W a ws) := HWD.out.below bel.out (Nat.le_refl _)
  clear hW
  go_enter Tryd.func40, Tryd.ntmps40
  go_wp2_with fail
  go_loopw [3] (fun i wr => ∃ k : Nat, i = .int .i64 k ∧ k ≤ n ∧ Below W.heap.size W wr ∧ Hid ((ws.take k).all wideB = true)) (fun i _ => n - (intOf i).toNat)
  case atStart => exact ⟨0, rfl, by omega, by rw [HW.out]; exact Below.refl _ _, by simp [Hid]⟩
  case round =>
    obtain ⟨k, rfl, hk, hbw, hall⟩ := hrel
    have bx0 : wr.cell? ⟨w.heap.size, 0, none⟩ = some (.int .i64 arch) := (hbw.cell (p := ⟨w.heap.size, 0, none⟩) (by show w.heap.size < W.heap.size; rw [sz.out]; omega)).trans (by rw [HW.out]; simp [go_sem])
    have bx1 : wr.cell? ⟨w.heap.size, 1, none⟩ = some (.int .i64 num) := (hbw.cell (p := ⟨w.heap.size, 1, none⟩) (by show w.heap.size < W.heap.size; rw [sz.out]; omega)).trans (by rw [HW.out]; simp [go_sem])
    have bx2 : wr.cell? ⟨w.heap.size, 2, none⟩ = some (.slice a n cap) := (hbw.cell (p := ⟨w.heap.size, 2, none⟩) (by show w.heap.size < W.heap.size; rw [sz.out]; omega)).trans (by rw [HW.out]; simp [go_sem])
    by_cases hlt : k < n
    · have bk : (k : Int) < n := by omega
      obtain ⟨b, off, rfl, hbl, hc⟩ := HWW.out.below hbw (Nat.le_refl _) (by rw [← HN.out]; omega)
      obtain ⟨c0, c1⟩ := hc k (by rw [← HN.out]; exact hlt)
      obtain ⟨p, hp⟩ : ∃ p, p = ws.getD k (0, 0) := ⟨_, rfl⟩
      rw [← hp] at c0 c1
      obtain ⟨x, y⟩ := p
      have HP : Hid ((x, y) = ws.getD k (0, 0)) := hp
      clear hp hc
      go_wp2_with fail
      refine (sWide_any x y _).mono ?_
      rintro e w2 ⟨rfl, hb2⟩
      have hbw2 : Below W.heap.size W w2 := hbw.trans (hb2.mono (by have := hbw.size; omega))
      have HB2 : Hid (Below W.heap.size W w2) := hbw2
      cases hwide : wideB (x, y)
      · have HF : Hid (callB arch num ws = false) := by
          have := all_no (ws := ws) (k := k) (by rw [← HN.out]; exact hlt) (by rw [← HP.out]; exact hwide)
          unfold Hid callB; rw [this]; simp
        clear hbw2 hb2
        go_wp2
        go_ret
        exact ⟨by rw [HF.out]; rfl, bel.out.trans (HB2.out.mono (by rw [sz.out]; omega))⟩
      · have HT : Hid ((ws.take (k + 1)).all wideB = true) := by unfold Hid; rw [all_take ws k (by rw [← HN.out]; exact hlt), hall.out, ← HP.out, hwide]; rfl
        clear hb2 bx0 bx1 bx2
        go_wp2
        go_roundw
        case rel => exact ⟨k + 1, by go_num, by omega, hbw2, HT⟩
        case measure => simp [intOf]; omega
    · have hkn : k = n := by omega
      have HT : Hid (ws.all wideB = true) := by
        have := hall.out
        rw [hkn, List.take_of_length_le (by rw [← HN.out]; omega)] at this
        exact this
      have HC : Hid (callB arch num ws = (halfB arch && halfB num && decide (n = 3))) := by unfold Hid callB; rw [HT.out, ← HN.out]; simp
      have HB2 : Hid (Below w.heap.size w wr) := bel.out.trans (hbw.mono (by rw [sz.out]; omega))
      have hlt' : ¬ ((k : Int) < n) := by omega
      clear hall hbw hkn
      cases h0 : halfB arch
      · go_wp2_with (go_at_call 79; refine (sHalf4_any _ _).mono ?_; rintro e w' ⟨rfl, rfl⟩)
        go_ret
        exact ⟨by rw [HC.out, h0]; rfl, HB2.out⟩
      cases h1 : halfB num
      · go_wp2_with (go_at_call 79; refine (sHalf4_any _ _).mono ?_; rintro e w' ⟨rfl, rfl⟩)
        go_ret
        exact ⟨by rw [HC.out, h0, h1]; rfl, HB2.out⟩
      · obtain ⟨q, hq⟩ : ∃ q : Bool, q = ((n : Int) == 3) := ⟨_, rfl⟩
        have HQ : Hid (q = decide (n = 3)) := by
          unfold Hid; rw [hq]
          by_cases h3 : n = 3
          · subst h3; rfl
          · rw [decide_eq_false h3]; simp; omega
        have hq' : ((n : Int) == 3) = q := hq.symm
        clear hq
        go_wp2_with (go_at_call 79; refine (sHalf4_any _ _).mono ?_; rintro e w' ⟨rfl, rfl⟩)
        go_ret
        exact ⟨by rw [HC.out, h0, h1, ← HQ.out]; simp, HB2.out⟩

set_option maxRecDepth 100000 in
set_option maxHeartbeats 3200000 in
theorem sField_any (arch num : Int) (a : Option Addr) (cap : Nat) (ws : List (Int × Int)) (t : Int) (w : World) (hl : ws.length ≤ 1048576) (h : Wides w a ws) :
    Calls Tryd.prog 41 #[.agg #[.int .i64 arch, .int .i64 num, .slice a ws.length cap], .int .i64 t] w fun e w' => e = .returned (.tuple #[.int .i64 (if fieldOk arch num ws t then fieldV arch num ws t else 0), .bool (fieldOk arch num ws t)]) ∧ Below w.heap.size w w' := by
  obtain ⟨n, hn⟩ : ∃ n, n = ws.length := ⟨_, rfl⟩
  rw [← hn] at hl ⊢
  have HN : Hid (n = ws.length) := hn
  have HWD : Hid (Wides w a ws) := h
  clear hn h
  obtain ⟨W, hW⟩ : ∃ W, W = w.alloc (.cells #[.int .i64 arch, .int .i64 num, .slice a n cap] 30) := ⟨_, rfl⟩
  have sz : Hid (W.heap.size = w.heap.size + 1) := by unfold Hid; rw [hW]; simp
  have bel : Hid (Below w.heap.size w W) := by rw [hW]; exact (Below.refl _ _).alloc (Nat.le_refl _) _
  have HW : Hid (W = w.alloc (.cells #[.int .i64 arch, .int .i64 num, .slice a n cap] 30)) := hW
  have HWW : Hid (Wides W a ws) := HWD.out.below bel.out (Nat.le_refl _)
  have hcall := sCall_any arch num a cap ws W (by rw [← HN.out]; exact hl) HWW.out
  rw [← HN.out, hW] at hcall
  have HCALL : Hid (Calls Tryd.prog 40 #[.agg #[.int .i64 arch, .int .i64 num, .slice a n cap]] (w.alloc (.cells #[.int .i64 arch, .int .i64 num, .slice a n cap] 30)) fun e w' => e = .returned (.bool (callB arch num ws)) ∧ Below (w.alloc (.cells #[.int .i64 arch, .int .i64 num, .slice a n cap] 30)).heap.size (w.alloc (.cells #[.int .i64 arch, .int .i64 num, .slice a n cap] 30)) w') := hcall
  clear hcall
  clear hW
  cases hcb : callB arch num ws
  · have HF : Hid (fieldOk arch num ws t = false) := by unfold Hid fieldOk; rw [hcb]; simp
    rw [HF.out]
    go_enter Tryd.func41, Tryd.ntmps41
    go_wp2_with fail
    refine HCALL.out.mono ?_
    rintro e w1 ⟨rfl, hb⟩
    have hb' : Hid (Below W.heap.size W w1) := by rw [HW.out]; exact hb
    have hz : w.heap.size < w1.heap.size := by have := hb'.out.size; rw [sz.out] at this; omega
    have hbF : Hid (Below w.heap.size w w1) := bel.out.trans (hb'.out.mono (by rw [sz.out]; omega))
    rw [hcb]
    clear hb
    go_wp2
    go_ret2
    exact ⟨rfl, hbF.out⟩
  cases hin : inB4 t 0 7
  · have HF : Hid (fieldOk arch num ws t = false) := by
      have : (decide (0 ≤ t) && decide (t ≤ 7)) = false := hin
      unfold Hid fieldOk; rw [this]; simp
    rw [HF.out]
    go_enter Tryd.func41, Tryd.ntmps41
    go_wp2_with fail
    refine HCALL.out.mono ?_
    rintro e w1 ⟨rfl, hb⟩
    have hb' : Hid (Below W.heap.size W w1) := by rw [HW.out]; exact hb
    have hz : w.heap.size < w1.heap.size := by have := hb'.out.size; rw [sz.out] at this; omega
    have hbF : Hid (Below w.heap.size w w1) := bel.out.trans (hb'.out.mono (by rw [sz.out]; omega))
    rw [hcb]
    clear hb
    go_wp2_with (go_at_call 47; refine (in4_any _ _ _ _).mono ?_; rintro e w' ⟨rfl, rfl⟩)
    go_ret2
    exact ⟨rfl, hbF.out⟩
  have t07 : 0 ≤ t ∧ t ≤ 7 := by simpa [inB4] using hin
  obtain ⟨t0, t7⟩ := t07
  have HL : Hid (n = 3) := by
    unfold Hid; rw [HN.out]
    have := hcb
    unfold callB at this
    simp only [Bool.and_eq_true, decide_eq_true_eq] at this
    exact this.1.2
  obtain ⟨v, hv⟩ : ∃ v, v = fieldV arch num ws t := ⟨_, rfl⟩
  have HF : Hid (fieldOk arch num ws t = true) := by unfold Hid fieldOk; rw [hcb, decide_eq_true t0, decide_eq_true t7]; rfl
  rw [HF.out, if_pos rfl, ← hv]
  have h3 := HL.out
  subst h3
  obtain ⟨b, off, ha, hbl, hcs⟩ := HWW.out (by rw [← HN.out]; omega)
  subst ha
  have HCS : Hid (b < W.heap.size ∧ ∀ j, j < 3 → W.cell? ⟨b, off + j * 2, none⟩ = some (.int .i64 (ws.getD j (0, 0)).1) ∧ W.cell? ⟨b, off + j * 2 + 1, none⟩ = some (.int .i64 (ws.getD j (0, 0)).2)) := ⟨hbl, by rw [HN.out]; exact hcs⟩
  clear hcs hbl
  have ht : t = 0 ∨ t = 1 ∨ ∃ j : Nat, j < 3 ∧ (t = 2 + 2 * j ∨ t = 3 + 2 * j) := by
    by_cases e0 : t = 0
    · exact .inl e0
    by_cases e1 : t = 1
    · exact .inr (.inl e1)
    exact .inr (.inr ⟨(t / 2 - 1).toNat, by omega, by omega⟩)
  rcases ht with rfl | rfl | ⟨j, hj, ht⟩
  · have HV : Hid (v = num) := by unfold Hid; rw [hv]; rfl
    clear hv
    go_enter Tryd.func41, Tryd.ntmps41
    go_wp2_with fail
    refine HCALL.out.mono ?_
    rintro e w1 ⟨rfl, hb⟩
    have hb' : Hid (Below W.heap.size W w1) := by rw [HW.out]; exact hb
    have hz : w.heap.size < w1.heap.size := by have := hb'.out.size; rw [sz.out] at this; omega
    have hbF : Hid (Below w.heap.size w w1) := bel.out.trans (hb'.out.mono (by rw [sz.out]; omega))
    have bx0 : w1.cell? ⟨w.heap.size, 0, none⟩ = some (.int .i64 arch) := (hb'.out.cell (p := ⟨w.heap.size, 0, none⟩) (by show w.heap.size < W.heap.size; rw [sz.out]; omega)).trans (by rw [HW.out]; simp [go_sem])
    have bx1 : w1.cell? ⟨w.heap.size, 1, none⟩ = some (.int .i64 num) := (hb'.out.cell (p := ⟨w.heap.size, 1, none⟩) (by show w.heap.size < W.heap.size; rw [sz.out]; omega)).trans (by rw [HW.out]; simp [go_sem])
    have bx2 : w1.cell? ⟨w.heap.size, 2, none⟩ = some (.slice (some ⟨b, off, none⟩) 3 cap) := (hb'.out.cell (p := ⟨w.heap.size, 2, none⟩) (by show w.heap.size < W.heap.size; rw [sz.out]; omega)).trans (by rw [HW.out]; simp [go_sem])
    rw [hcb]
    clear hb
    go_wp2_with (go_at_call 47; refine (in4_any _ _ _ _).mono ?_; rintro e w' ⟨rfl, rfl⟩)
    go_ret2
    exact ⟨by rw [HV.out]; rfl, hbF.out⟩
  · have HV : Hid (v = arch) := by unfold Hid; rw [hv]; rfl
    clear hv
    go_enter Tryd.func41, Tryd.ntmps41
    go_wp2_with fail
    refine HCALL.out.mono ?_
    rintro e w1 ⟨rfl, hb⟩
    have hb' : Hid (Below W.heap.size W w1) := by rw [HW.out]; exact hb
    have hz : w.heap.size < w1.heap.size := by have := hb'.out.size; rw [sz.out] at this; omega
    have hbF : Hid (Below w.heap.size w w1) := bel.out.trans (hb'.out.mono (by rw [sz.out]; omega))
    have bx0 : w1.cell? ⟨w.heap.size, 0, none⟩ = some (.int .i64 arch) := (hb'.out.cell (p := ⟨w.heap.size, 0, none⟩) (by show w.heap.size < W.heap.size; rw [sz.out]; omega)).trans (by rw [HW.out]; simp [go_sem])
    have bx1 : w1.cell? ⟨w.heap.size, 1, none⟩ = some (.int .i64 num) := (hb'.out.cell (p := ⟨w.heap.size, 1, none⟩) (by show w.heap.size < W.heap.size; rw [sz.out]; omega)).trans (by rw [HW.out]; simp [go_sem])
    have bx2 : w1.cell? ⟨w.heap.size, 2, none⟩ = some (.slice (some ⟨b, off, none⟩) 3 cap) := (hb'.out.cell (p := ⟨w.heap.size, 2, none⟩) (by show w.heap.size < W.heap.size; rw [sz.out]; omega)).trans (by rw [HW.out]; simp [go_sem])
    rw [hcb]
    clear hb
    go_wp2_with (go_at_call 47; refine (in4_any _ _ _ _).mono ?_; rintro e w' ⟨rfl, rfl⟩)
    go_ret2
    exact ⟨by rw [HV.out]; rfl, hbF.out⟩
  have hj3 : j = 0 ∨ j = 1 ∨ j = 2 := by omega
  clear hj
  rcases hj3 with rfl | rfl | rfl
  · rcases ht with rfl | rfl
    · obtain ⟨p, hp⟩ : ∃ p, p = ws.getD 0 (0, 0) := ⟨_, rfl⟩
      have HV : Hid (v = p.2) := by unfold Hid; rw [hv, hp]; rfl
      obtain ⟨x, y⟩ := p
      have HP : Hid ((x, y) = ws.getD 0 (0, 0)) := hp
      clear hv hp
      go_enter Tryd.func41, Tryd.ntmps41
      go_wp2_with fail
      refine HCALL.out.mono ?_
      rintro e w1 ⟨rfl, hb⟩
      have hb' : Hid (Below W.heap.size W w1) := by rw [HW.out]; exact hb
      have hz : w.heap.size < w1.heap.size := by have := hb'.out.size; rw [sz.out] at this; omega
      have hbF : Hid (Below w.heap.size w w1) := bel.out.trans (hb'.out.mono (by rw [sz.out]; omega))
      have bx0 : w1.cell? ⟨w.heap.size, 0, none⟩ = some (.int .i64 arch) := (hb'.out.cell (p := ⟨w.heap.size, 0, none⟩) (by show w.heap.size < W.heap.size; rw [sz.out]; omega)).trans (by rw [HW.out]; simp [go_sem])
      have bx1 : w1.cell? ⟨w.heap.size, 1, none⟩ = some (.int .i64 num) := (hb'.out.cell (p := ⟨w.heap.size, 1, none⟩) (by show w.heap.size < W.heap.size; rw [sz.out]; omega)).trans (by rw [HW.out]; simp [go_sem])
      have bx2 : w1.cell? ⟨w.heap.size, 2, none⟩ = some (.slice (some ⟨b, off, none⟩) 3 cap) := (hb'.out.cell (p := ⟨w.heap.size, 2, none⟩) (by show w.heap.size < W.heap.size; rw [sz.out]; omega)).trans (by rw [HW.out]; simp [go_sem])
      have d0 : w1.cell? ⟨b, off, none⟩ = some (.int .i64 x) := (hb'.out.cell (p := ⟨b, off + 0 * 2, none⟩) HCS.out.1).trans (by rw [(HCS.out.2 0 (by omega)).1, ← HP.out])
      have d1 : w1.cell? ⟨b, off + 1, none⟩ = some (.int .i64 y) := (hb'.out.cell (p := ⟨b, off + 0 * 2 + 1, none⟩) HCS.out.1).trans (by rw [(HCS.out.2 0 (by omega)).2, ← HP.out])
      rw [hcb]
      clear hb
      go_wp2_with (go_at_call 47; refine (in4_any _ _ _ _).mono ?_; rintro e w' ⟨rfl, rfl⟩)
      go_ret2
      exact ⟨by rw [HV.out]; rfl, hbF.out.alloc (by omega) _⟩
    · obtain ⟨p, hp⟩ : ∃ p, p = ws.getD 0 (0, 0) := ⟨_, rfl⟩
      have HV : Hid (v = p.1) := by unfold Hid; rw [hv, hp]; rfl
      obtain ⟨x, y⟩ := p
      have HP : Hid ((x, y) = ws.getD 0 (0, 0)) := hp
      clear hv hp
      go_enter Tryd.func41, Tryd.ntmps41
      go_wp2_with fail
      refine HCALL.out.mono ?_
      rintro e w1 ⟨rfl, hb⟩
      have hb' : Hid (Below W.heap.size W w1) := by rw [HW.out]; exact hb
      have hz : w.heap.size < w1.heap.size := by have := hb'.out.size; rw [sz.out] at this; omega
      have hbF : Hid (Below w.heap.size w w1) := bel.out.trans (hb'.out.mono (by rw [sz.out]; omega))
      have bx0 : w1.cell? ⟨w.heap.size, 0, none⟩ = some (.int .i64 arch) := (hb'.out.cell (p := ⟨w.heap.size, 0, none⟩) (by show w.heap.size < W.heap.size; rw [sz.out]; omega)).trans (by rw [HW.out]; simp [go_sem])
      have bx1 : w1.cell? ⟨w.heap.size, 1, none⟩ = some (.int .i64 num) := (hb'.out.cell (p := ⟨w.heap.size, 1, none⟩) (by show w.heap.size < W.heap.size; rw [sz.out]; omega)).trans (by rw [HW.out]; simp [go_sem])
      have bx2 : w1.cell? ⟨w.heap.size, 2, none⟩ = some (.slice (some ⟨b, off, none⟩) 3 cap) := (hb'.out.cell (p := ⟨w.heap.size, 2, none⟩) (by show w.heap.size < W.heap.size; rw [sz.out]; omega)).trans (by rw [HW.out]; simp [go_sem])
      have d0 : w1.cell? ⟨b, off, none⟩ = some (.int .i64 x) := (hb'.out.cell (p := ⟨b, off + 0 * 2, none⟩) HCS.out.1).trans (by rw [(HCS.out.2 0 (by omega)).1, ← HP.out])
      have d1 : w1.cell? ⟨b, off + 1, none⟩ = some (.int .i64 y) := (hb'.out.cell (p := ⟨b, off + 0 * 2 + 1, none⟩) HCS.out.1).trans (by rw [(HCS.out.2 0 (by omega)).2, ← HP.out])
      rw [hcb]
      clear hb
      go_wp2_with (go_at_call 47; refine (in4_any _ _ _ _).mono ?_; rintro e w' ⟨rfl, rfl⟩)
      go_ret2
      exact ⟨by rw [HV.out]; rfl, hbF.out.alloc (by omega) _⟩
  · rcases ht with rfl | rfl
    · obtain ⟨p, hp⟩ : ∃ p, p = ws.getD 1 (0, 0) := ⟨_, rfl⟩
      have HV : Hid (v = p.2) := by unfold Hid; rw [hv, hp]; rfl
      obtain ⟨x, y⟩ := p
      have HP : Hid ((x, y) = ws.getD 1 (0, 0)) := hp
      clear hv hp
      go_enter Tryd.func41, Tryd.ntmps41
      go_wp2_with fail
      refine HCALL.out.mono ?_
      rintro e w1 ⟨rfl, hb⟩
      have hb' : Hid (Below W.heap.size W w1) := by rw [HW.out]; exact hb
      have hz : w.heap.size < w1.heap.size := by have := hb'.out.size; rw [sz.out] at this; omega
      have hbF : Hid (Below w.heap.size w w1) := bel.out.trans (hb'.out.mono (by rw [sz.out]; omega))
      have bx0 : w1.cell? ⟨w.heap.size, 0, none⟩ = some (.int .i64 arch) := (hb'.out.cell (p := ⟨w.heap.size, 0, none⟩) (by show w.heap.size < W.heap.size; rw [sz.out]; omega)).trans (by rw [HW.out]; simp [go_sem])
      have bx1 : w1.cell? ⟨w.heap.size, 1, none⟩ = some (.int .i64 num) := (hb'.out.cell (p := ⟨w.heap.size, 1, none⟩) (by show w.heap.size < W.heap.size; rw [sz.out]; omega)).trans (by rw [HW.out]; simp [go_sem])
      have bx2 : w1.cell? ⟨w.heap.size, 2, none⟩ = some (.slice (some ⟨b, off, none⟩) 3 cap) := (hb'.out.cell (p := ⟨w.heap.size, 2, none⟩) (by show w.heap.size < W.heap.size; rw [sz.out]; omega)).trans (by rw [HW.out]; simp [go_sem])
      have d0 : w1.cell? ⟨b, off + 2, none⟩ = some (.int .i64 x) := (hb'.out.cell (p := ⟨b, off + 1 * 2, none⟩) HCS.out.1).trans (by rw [(HCS.out.2 1 (by omega)).1, ← HP.out])
      have d1 : w1.cell? ⟨b, off + 3, none⟩ = some (.int .i64 y) := (hb'.out.cell (p := ⟨b, off + 1 * 2 + 1, none⟩) HCS.out.1).trans (by rw [(HCS.out.2 1 (by omega)).2, ← HP.out])
      rw [hcb]
      clear hb
      go_wp2_with (go_at_call 47; refine (in4_any _ _ _ _).mono ?_; rintro e w' ⟨rfl, rfl⟩)
      go_ret2
      exact ⟨by rw [HV.out]; rfl, hbF.out.alloc (by omega) _⟩
    · obtain ⟨p, hp⟩ : ∃ p, p = ws.getD 1 (0, 0) := ⟨_, rfl⟩
      have HV : Hid (v = p.1) := by unfold Hid; rw [hv, hp]; rfl
      obtain ⟨x, y⟩ := p
      have HP : Hid ((x, y) = ws.getD 1 (0, 0)) := hp
      clear hv hp
      go_enter Tryd.func41, Tryd.ntmps41
      go_wp2_with fail
      refine HCALL.out.mono ?_
      rintro e w1 ⟨rfl, hb⟩
      have hb' : Hid (Below W.heap.size W w1) := by rw [HW.out]; exact hb
      have hz : w.heap.size < w1.heap.size := by have := hb'.out.size; rw [sz.out] at this; omega
      have hbF : Hid (Below w.heap.size w w1) := bel.out.trans (hb'.out.mono (by rw [sz.out]; omega))
      have bx0 : w1.cell? ⟨w.heap.size, 0, none⟩ = some (.int .i64 arch) := (hb'.out.cell (p := ⟨w.heap.size, 0, none⟩) (by show w.heap.size < W.heap.size; rw [sz.out]; omega)).trans (by rw [HW.out]; simp [go_sem])
      have bx1 : w1.cell? ⟨w.heap.size, 1, none⟩ = some (.int .i64 num) := (hb'.out.cell (p := ⟨w.heap.size, 1, none⟩) (by show w.heap.size < W.heap.size; rw [sz.out]; omega)).trans (by rw [HW.out]; simp [go_sem])
      have bx2 : w1.cell? ⟨w.heap.size, 2, none⟩ = some (.slice (some ⟨b, off, none⟩) 3 cap) := (hb'.out.cell (p := ⟨w.heap.size, 2, none⟩) (by show w.heap.size < W.heap.size; rw [sz.out]; omega)).trans (by rw [HW.out]; simp [go_sem])
      have d0 : w1.cell? ⟨b, off + 2, none⟩ = some (.int .i64 x) := (hb'.out.cell (p := ⟨b, off + 1 * 2, none⟩) HCS.out.1).trans (by rw [(HCS.out.2 1 (by omega)).1, ← HP.out])
      have d1 : w1.cell? ⟨b, off + 3, none⟩ = some (.int .i64 y) := (hb'.out.cell (p := ⟨b, off + 1 * 2 + 1, none⟩) HCS.out.1).trans (by rw [(HCS.out.2 1 (by omega)).2, ← HP.out])
      rw [hcb]
      clear hb
      go_wp2_with (go_at_call 47; refine (in4_any _ _ _ _).mono ?_; rintro e w' ⟨rfl, rfl⟩)
      go_ret2
      exact ⟨by rw [HV.out]; rfl, hbF.out.alloc (by omega) _⟩
  · rcases ht with rfl | rfl
    · obtain ⟨p, hp⟩ : ∃ p, p = ws.getD 2 (0, 0) := ⟨_, rfl⟩
      have HV : Hid (v = p.2) := by unfold Hid; rw [hv, hp]; rfl
      obtain ⟨x, y⟩ := p
      have HP : Hid ((x, y) = ws.getD 2 (0, 0)) := hp
      clear hv hp
      go_enter Tryd.func41, Tryd.ntmps41
      go_wp2_with fail
      refine HCALL.out.mono ?_
      rintro e w1 ⟨rfl, hb⟩
      have hb' : Hid (Below W.heap.size W w1) := by rw [HW.out]; exact hb
      have hz : w.heap.size < w1.heap.size := by have := hb'.out.size; rw [sz.out] at this; omega
      have hbF : Hid (Below w.heap.size w w1) := bel.out.trans (hb'.out.mono (by rw [sz.out]; omega))
      have bx0 : w1.cell? ⟨w.heap.size, 0, none⟩ = some (.int .i64 arch) := (hb'.out.cell (p := ⟨w.heap.size, 0, none⟩) (by show w.heap.size < W.heap.size; rw [sz.out]; omega)).trans (by rw [HW.out]; simp [go_sem])
      have bx1 : w1.cell? ⟨w.heap.size, 1, none⟩ = some (.int .i64 num) := (hb'.out.cell (p := ⟨w.heap.size, 1, none⟩) (by show w.heap.size < W.heap.size; rw [sz.out]; omega)).trans (by rw [HW.out]; simp [go_sem])
      have bx2 : w1.cell? ⟨w.heap.size, 2, none⟩ = some (.slice (some ⟨b, off, none⟩) 3 cap) := (hb'.out.cell (p := ⟨w.heap.size, 2, none⟩) (by show w.heap.size < W.heap.size; rw [sz.out]; omega)).trans (by rw [HW.out]; simp [go_sem])
      have d0 : w1.cell? ⟨b, off + 4, none⟩ = some (.int .i64 x) := (hb'.out.cell (p := ⟨b, off + 2 * 2, none⟩) HCS.out.1).trans (by rw [(HCS.out.2 2 (by omega)).1, ← HP.out])
      have d1 : w1.cell? ⟨b, off + 5, none⟩ = some (.int .i64 y) := (hb'.out.cell (p := ⟨b, off + 2 * 2 + 1, none⟩) HCS.out.1).trans (by rw [(HCS.out.2 2 (by omega)).2, ← HP.out])
      rw [hcb]
      clear hb
      go_wp2_with (go_at_call 47; refine (in4_any _ _ _ _).mono ?_; rintro e w' ⟨rfl, rfl⟩)
      go_ret2
      exact ⟨by rw [HV.out]; rfl, hbF.out.alloc (by omega) _⟩
    · obtain ⟨p, hp⟩ : ∃ p, p = ws.getD 2 (0, 0) := ⟨_, rfl⟩
      have HV : Hid (v = p.1) := by unfold Hid; rw [hv, hp]; rfl
      obtain ⟨x, y⟩ := p
      have HP : Hid ((x, y) = ws.getD 2 (0, 0)) := hp
      clear hv hp
      go_enter Tryd.func41, Tryd.ntmps41
      go_wp2_with fail
      refine HCALL.out.mono ?_
      rintro e w1 ⟨rfl, hb⟩
      have hb' : Hid (Below W.heap.size W w1) := by rw [HW.out]; exact hb
      have hz : w.heap.size < w1.heap.size := by have := hb'.out.size; rw [sz.out] at this; omega
      have hbF : Hid (Below w.heap.size w w1) := bel.out.trans (hb'.out.mono (by rw [sz.out]; omega))
      have bx0 : w1.cell? ⟨w.heap.size, 0, none⟩ = some (.int .i64 arch) := (hb'.out.cell (p := ⟨w.heap.size, 0, none⟩) (by show w.heap.size < W.heap.size; rw [sz.out]; omega)).trans (by rw [HW.out]; simp [go_sem])
      have bx1 : w1.cell? ⟨w.heap.size, 1, none⟩ = some (.int .i64 num) := (hb'.out.cell (p := ⟨w.heap.size, 1, none⟩) (by show w.heap.size < W.heap.size; rw [sz.out]; omega)).trans (by rw [HW.out]; simp [go_sem])
      have bx2 : w1.cell? ⟨w.heap.size, 2, none⟩ = some (.slice (some ⟨b, off, none⟩) 3 cap) := (hb'.out.cell (p := ⟨w.heap.size, 2, none⟩) (by show w.heap.size < W.heap.size; rw [sz.out]; omega)).trans (by rw [HW.out]; simp [go_sem])
      have d0 : w1.cell? ⟨b, off + 4, none⟩ = some (.int .i64 x) := (hb'.out.cell (p := ⟨b, off + 2 * 2, none⟩) HCS.out.1).trans (by rw [(HCS.out.2 2 (by omega)).1, ← HP.out])
      have d1 : w1.cell? ⟨b, off + 5, none⟩ = some (.int .i64 y) := (hb'.out.cell (p := ⟨b, off + 2 * 2 + 1, none⟩) HCS.out.1).trans (by rw [(HCS.out.2 2 (by omega)).2, ← HP.out])
      rw [hcb]
      clear hb
      go_wp2_with (go_at_call 47; refine (in4_any _ _ _ _).mono ?_; rintro e w' ⟨rfl, rfl⟩)
      go_ret2
      exact ⟨by rw [HV.out]; rfl, hbF.out.alloc (by omega) _⟩

theorem inB_true4 {n lo hi : Int} : inB4 n lo hi = true ↔ lo ≤ n ∧ n ≤ hi := by simp [inB4]

theorem inB_false4 {n lo hi : Int} : inB4 n lo hi = false ↔ n < lo ∨ hi < n := by
  cases h : inB4 n lo hi
  · simp [inB4] at h
    simp; omega
  · rw [inB_true4] at h
    simp; omega

def resV (a d : Int) : Int := if inB4 a 0 5 && inB4 d 0 65535 then 65536 * a + d else 0

theorem known_any (n : Int) (w : World) : Calls Tryd.prog 81 #[.int .i64 n] w fun e w' => e = .returned (.bool (inB4 n 0 5)) ∧ w = w' := by
  have HB : Hid (inB4 n 0 5 = (decide (0 ≤ n) && decide (n ≤ 5))) := rfl
  by_cases h0 : 0 ≤ n
  · by_cases h1 : n ≤ 5
    · go_enter Tryd.func81, Tryd.ntmps81
      go_wp2
      go_ret
      exact ⟨by rw [HB.out]; simp [h0, h1], rfl⟩
    · go_enter Tryd.func81, Tryd.ntmps81
      go_wp2
      go_ret
      exact ⟨by rw [HB.out]; simp [h0, h1], rfl⟩
  · go_enter Tryd.func81, Tryd.ntmps81
    go_wp2
    go_ret
    exact ⟨by rw [HB.out, decide_eq_false (show ¬ 0 ≤ n by omega)]; simp, rfl⟩

theorem result_any (a d : Int) (w : World) (ha : 0 ≤ a ∧ a ≤ 5) (hd : 0 ≤ d ∧ d ≤ 65535) : Calls Tryd.prog 82 #[.int .i64 a, .int .i64 d] w fun e w' => e = .returned (.int .i64 (65536 * a + d)) ∧ w = w' := by
  obtain ⟨a0, a5⟩ := ha
  obtain ⟨d0, d6⟩ := hd
  go_enter Tryd.func82, Tryd.ntmps82
  go_wp2
  go_ret
  exact ⟨ret_int (by omega), rfl⟩

theorem iResultOf_any (a d : Int) (w : World) : Calls Tryd.prog 45 #[.int .i64 a, .int .i64 d] w fun e w' => e = .returned (.int .i64 (resV a d)) ∧ w = w' := by
  obtain ⟨v, hv⟩ : ∃ v, v = resV a d := ⟨_, rfl⟩
  rw [← hv]
  cases hk : inB4 a 0 5
  · have HV : Hid (v = 0) := by rw [hv]; unfold Hid resV; rw [hk]; rfl
    clear hv
    go_enter Tryd.func45, Tryd.ntmps45
    go_wp2_with (go_at_call 81; refine (known_any _ _).mono ?_; rintro e w' ⟨rfl, rfl⟩)
    go_ret
    exact ⟨by rw [HV.out]; rfl, rfl⟩
  · by_cases h0 : d < 0
    · have HV : Hid (v = 0) := by rw [hv]; unfold Hid resV; rw [inB_false4.2 (.inl h0 : d < 0 ∨ 65535 < d)]; simp
      clear hv
      go_enter Tryd.func45, Tryd.ntmps45
      go_wp2_with (go_at_call 81; refine (known_any _ _).mono ?_; rintro e w' ⟨rfl, rfl⟩)
      go_ret
      exact ⟨by rw [HV.out]; rfl, rfl⟩
    · by_cases h1 : 65536 ≤ d
      · have HV : Hid (v = 0) := by rw [hv]; unfold Hid resV; rw [inB_false4.2 (.inr (by omega) : d < 0 ∨ 65535 < d)]; simp
        clear hv
        go_enter Tryd.func45, Tryd.ntmps45
        go_wp2_with (go_at_call 81; refine (known_any _ _).mono ?_; rintro e w' ⟨rfl, rfl⟩)
        go_ret
        exact ⟨by rw [HV.out]; rfl, rfl⟩
      · have HV : Hid (v = 65536 * a + d) := by rw [hv]; unfold Hid resV; rw [hk, inB_true4.2 (by omega : 0 ≤ d ∧ d ≤ 65535)]; rfl
        have HK : Hid (0 ≤ a ∧ a ≤ 5) := inB_true4.1 hk
        have HD : Hid (0 ≤ d ∧ d ≤ 65535) := by unfold Hid; omega
        clear hv
        go_enter Tryd.func45, Tryd.ntmps45
        go_wp2_with (first | (go_at_call 81; refine (known_any _ _).mono ?_; rintro e w' ⟨rfl, rfl⟩) | (go_at_call 82; refine (result_any _ _ _ HK.out HD.out).mono ?_; rintro e w' ⟨rfl, rfl⟩))
        go_ret
        exact ⟨by rw [HV.out]; rfl, rfl⟩

theorem sResultOf_any (a d : Int) (w : World) : Calls Tryd.prog 14 #[.int .i64 a, .int .i64 d] w fun e w' => e = .returned (.int .i64 (resV a d)) ∧ w = w' := by
  obtain ⟨v, hv⟩ : ∃ v, v = resV a d := ⟨_, rfl⟩
  rw [← hv]
  cases hk : inB4 a 0 5
  · have HV : Hid (v = 0) := by rw [hv]; unfold Hid resV; rw [hk]; rfl
    clear hv
    go_enter Tryd.func14, Tryd.ntmps14
    go_wp2_with (go_at_call 47; refine (in4_any _ _ _ _).mono ?_; rintro e w' ⟨rfl, rfl⟩)
    go_ret
    exact ⟨by rw [HV.out]; rfl, rfl⟩
  · cases hd : inB4 d 0 65535
    · have HV : Hid (v = 0) := by rw [hv]; unfold Hid resV; rw [hk, hd]; rfl
      clear hv
      go_enter Tryd.func14, Tryd.ntmps14
      go_wp2_with (go_at_call 47; refine (in4_any _ _ _ _).mono ?_; rintro e w' ⟨rfl, rfl⟩)
      go_ret
      exact ⟨by rw [HV.out]; rfl, rfl⟩
    · have HV : Hid (v = 65536 * a + d) := by rw [hv]; unfold Hid resV; rw [hk, hd]; rfl
      obtain ⟨k0, k1⟩ := inB_true4.1 hk
      obtain ⟨d0, d1⟩ := inB_true4.1 hd
      clear hv
      go_enter Tryd.func14, Tryd.ntmps14
      go_wp2_with (go_at_call 47; refine (in4_any _ _ _ _).mono ?_; rintro e w' ⟨rfl, rfl⟩)
      go_ret
      exact ⟨by rw [HV.out]; rfl, rfl⟩

/-- A condition in plain numbers. -/
structure CN where
  arg : Int
  mh : Int
  ml : Int
  cm : Int
  vh : Int
  vl : Int

def CN.l (c : CN) : List Value := [.int .i64 c.arg, .int .i64 c.mh, .int .i64 c.ml, .int .i64 c.cm, .int .i64 c.vh, .int .i64 c.vl]

def c0 : CN := ⟨0, 0, 0, 0, 0, 0⟩

def condB (c : CN) : Bool := inB4 c.arg 0 2 && inB4 c.cm 1 6 && wideB (c.mh, c.ml) && wideB (c.vh, c.vl)

/-- How n stands beside 0, as cm (1 .. 6) asks. -/
def asB (n cm : Int) : Bool :=
  if cm = 1 then n == 0 else if cm = 2 then n != 0 else if cm = 3 then decide (n < 0) else if cm = 4 then decide (n ≤ 0) else if cm = 5 then decide (0 < n) else decide (0 ≤ n)

def cmpC (c : CN) (ws : List (Int × Int)) : Int := cmpW (andW (ws.getD c.arg.toNat (0, 0)) (c.mh, c.ml)) (c.vh, c.vl)

def condH (c : CN) (arch num : Int) (ws : List (Int × Int)) : Bool := condB c && callB arch num ws && asB (cmpC c ws) c.cm

structure RN where
  nums : List Int
  conds : List CN
  act : Int
  data : Int

def r0 : RN := ⟨[], [], 0, 0⟩

def outB (a d : Int) : Bool := inB4 a 0 5 && inB4 d 0 65535

def numsB (l : List Int) : Bool := decide (l.length ≤ 4) && (List.range l.length).all fun i => halfB (l.getD i 0) && (decide (i = 0) || decide (l.getD (i - 1) 0 < l.getD i 0))

def condsB (l : List CN) : Bool := decide (l.length ≤ 3) && l.all condB

def ruleB (r : RN) : Bool := outB r.act r.data && numsB r.nums && condsB r.conds

structure PN where
  arch : Int
  act : Int
  data : Int
  rules : List RN

def numH (l : List Int) (n : Int) : Bool := decide (l.length = 0) || l.contains n

def ruleH (r : RN) (arch num : Int) (ws : List (Int × Int)) : Bool := numH r.nums num && r.conds.all fun c => condH c arch num ws

theorem all_get {α : Type} (l : List α) (p : α → Bool) (d : α) (k : Nat) (h : k < l.length) : (l.take (k + 1)).all p = ((l.take k).all p && p (l.getD k d)) := by
  rw [List.take_succ_eq_append_getElem h, List.all_append]
  simp [List.getD_eq_getElem?_getD, h]

theorem all_bad {α : Type} {l : List α} {p : α → Bool} {d : α} {k : Nat} (hk : k < l.length) (h : p (l.getD k d) = false) : l.all p = false := by
  rw [Bool.eq_false_iff]
  intro ha
  have := List.all_eq_true.1 ha (l.getD k d) (by rw [List.getD_eq_getElem?_getD, List.getElem?_eq_getElem hk]; exact List.getElem_mem hk)
  rw [h] at this
  exact Bool.noConfusion this

theorem all_end {α : Type} {l : List α} {p : α → Bool} {k : Nat} (hk : k = l.length) (h : (l.take k).all p = true) : l.all p = true := by
  rw [hk, List.take_of_length_le (Nat.le_refl _)] at h
  exact h

end Go.Proofs.YthflflhcbnianaaDoor
