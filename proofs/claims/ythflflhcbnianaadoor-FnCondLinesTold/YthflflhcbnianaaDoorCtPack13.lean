/- Plain facts on conditions, rules and policies: what is right, what holds of a call, what is decided. -/
import Derived.Test.YthflflhcbnianaaDoorRows
import Derived.Test.YthflflhcbnianaaDoorCtPack2
import Derived.Test.YthflflhcbnianaaDoorCtPack5
import Derived.WalkKit
import Derived.WalkSpells
import Derived.WalkSmall
import Derived.Below
import Derived.Laws.StructEq
import Derived.ChangeKeysEq
/- What impl's and spec's functions of one chapter answer: HalfOk, WideOk, WideCmp, WideAnd, of any numbers. -/
namespace Go.Proofs.YthflflhcbnianaaDoor
open Go.RowKit
set_option linter.unusedVariables false

theorem iHalf4_any (n : Int) (w : World) : Calls Tryd.prog 100 #[.int .i64 n] w fun e w' => e = .returned (.bool (halfB n)) ∧ w = w' := by
  obtain ⟨b, hb⟩ : ∃ b, b = halfB n := ⟨_, rfl⟩
  rw [← hb]
  have HB : Hid (b = halfB n) := hb
  clear hb
  by_cases h0 : 0 ≤ n
  · by_cases h1 : n ≤ 4294967295
    · go_enter Tryd.func100, Tryd.ntmps100
      go_wp2
      go_ret
      exact ⟨by rw [HB.out, halfB_true.2 ⟨h0, h1⟩]; simp, rfl⟩
    · go_enter Tryd.func100, Tryd.ntmps100
      go_wp2
      go_ret
      exact ⟨by rw [HB.out, halfB_false.2 (by omega)]; simp, rfl⟩
  · go_enter Tryd.func100, Tryd.ntmps100
    go_wp2
    go_ret
    exact ⟨by rw [HB.out, halfB_false.2 (by omega)]; simp, rfl⟩

/-- In lo .. hi. -/
def inB4 (n lo hi : Int) : Bool := decide (lo ≤ n) && decide (n ≤ hi)

theorem in4_any (n lo hi : Int) (w : World) : Calls Tryd.prog 47 #[.int .i64 n, .int .i64 lo, .int .i64 hi] w fun e w' => e = .returned (.bool (inB4 n lo hi)) ∧ w = w' := by
  have HB : Hid (inB4 n lo hi = (decide (lo ≤ n) && decide (n ≤ hi))) := rfl
  by_cases h0 : lo ≤ n
  · by_cases h1 : n ≤ hi
    · go_enter Tryd.func47, Tryd.ntmps47
      go_wp2
      go_ret
      exact ⟨by rw [HB.out]; simp [h0, h1], rfl⟩
    · go_enter Tryd.func47, Tryd.ntmps47
      go_wp2
      go_ret
      exact ⟨by rw [HB.out]; simp [h0, h1], rfl⟩
  · go_enter Tryd.func47, Tryd.ntmps47
    go_wp2
    go_ret
    exact ⟨by rw [HB.out, decide_eq_false (show ¬ lo ≤ n by omega)]; simp, rfl⟩

theorem sHalf4_any (n : Int) (w : World) : Calls Tryd.prog 79 #[.int .i64 n] w fun e w' => e = .returned (.bool (halfB n)) ∧ w = w' := by
  go_enter Tryd.func79, Tryd.ntmps79
  go_wp2_with (go_at_call 47; refine (in4_any _ _ _ _).mono ?_; rintro e w' ⟨rfl, rfl⟩)
  go_ret
  exact ⟨rfl, rfl⟩

theorem iWide_any (a b : Int) (w : World) : Calls Tryd.prog 92 #[.agg #[.int .i64 a, .int .i64 b]] w fun e w' => e = .returned (.bool (wideB (a, b))) ∧ Below w.heap.size w w' := by
  have HB : Hid (wideB (a, b) = (halfB a && halfB b)) := rfl
  cases h0 : halfB a
  · go_enter Tryd.func92, Tryd.ntmps92
    go_wp2_with (go_at_call 100; refine (iHalf4_any _ _).mono ?_; rintro e w' ⟨rfl, rfl⟩)
    go_ret
    exact ⟨by rw [HB.out, h0]; simp, (Below.refl _ _).alloc (Nat.le_refl _) _⟩
  · go_enter Tryd.func92, Tryd.ntmps92
    go_wp2_with (go_at_call 100; refine (iHalf4_any _ _).mono ?_; rintro e w' ⟨rfl, rfl⟩)
    go_ret
    exact ⟨by rw [HB.out, h0]; simp, (Below.refl _ _).alloc (Nat.le_refl _) _⟩

theorem sWide_any (a b : Int) (w : World) : Calls Tryd.prog 68 #[.agg #[.int .i64 a, .int .i64 b]] w fun e w' => e = .returned (.bool (wideB (a, b))) ∧ Below w.heap.size w w' := by
  have HB : Hid (wideB (a, b) = (halfB a && halfB b)) := rfl
  cases h0 : halfB a
  · go_enter Tryd.func68, Tryd.ntmps68
    go_wp2_with (go_at_call 79; refine (sHalf4_any _ _).mono ?_; rintro e w' ⟨rfl, rfl⟩)
    go_ret
    exact ⟨by rw [HB.out, h0]; simp, (Below.refl _ _).alloc (Nat.le_refl _) _⟩
  · go_enter Tryd.func68, Tryd.ntmps68
    go_wp2_with (go_at_call 79; refine (sHalf4_any _ _).mono ?_; rintro e w' ⟨rfl, rfl⟩)
    go_ret
    exact ⟨by rw [HB.out, h0]; simp, (Below.refl _ _).alloc (Nat.le_refl _) _⟩

theorem two_below {w w' : World} {B g : Nat} {a b c d : Int} (h : (w.cell? ⟨g, 0, none⟩ = some (.int .i64 a) ∧ w.cell? ⟨g, 1, none⟩ = some (.int .i64 b) ∧ w.cell? ⟨g + 1, 0, none⟩ = some (.int .i64 c) ∧ w.cell? ⟨g + 1, 1, none⟩ = some (.int .i64 d))) (hb : Below B w w') (hB : g + 1 < B) : (w'.cell? ⟨g, 0, none⟩ = some (.int .i64 a) ∧ w'.cell? ⟨g, 1, none⟩ = some (.int .i64 b) ∧ w'.cell? ⟨g + 1, 0, none⟩ = some (.int .i64 c) ∧ w'.cell? ⟨g + 1, 1, none⟩ = some (.int .i64 d)) :=
  ⟨(hb.cell (p := ⟨g, 0, none⟩) (show g < B by omega)).trans h.1, (hb.cell (p := ⟨g, 1, none⟩) (show g < B by omega)).trans h.2.1, (hb.cell (p := ⟨g + 1, 0, none⟩) hB).trans h.2.2.1, (hb.cell (p := ⟨g + 1, 1, none⟩) hB).trans h.2.2.2⟩

theorem two_new (w : World) (a b c d : Int) (g : Nat) (hg : g = w.heap.size) (t : TypeId) : (((w.alloc (.cells #[.int .i64 a, .int .i64 b] t)).alloc (.cells #[.int .i64 c, .int .i64 d] t)).cell? ⟨g, 0, none⟩ = some (.int .i64 a) ∧ ((w.alloc (.cells #[.int .i64 a, .int .i64 b] t)).alloc (.cells #[.int .i64 c, .int .i64 d] t)).cell? ⟨g, 1, none⟩ = some (.int .i64 b) ∧ ((w.alloc (.cells #[.int .i64 a, .int .i64 b] t)).alloc (.cells #[.int .i64 c, .int .i64 d] t)).cell? ⟨g + 1, 0, none⟩ = some (.int .i64 c) ∧ ((w.alloc (.cells #[.int .i64 a, .int .i64 b] t)).alloc (.cells #[.int .i64 c, .int .i64 d] t)).cell? ⟨g + 1, 1, none⟩ = some (.int .i64 d)) := by
  subst hg; simp [go_sem]

/-- Behind w two wide numbers were boxed; nothing below has turned since. -/
def Inv (w : World) (a b c d : Int) (W : World) : Prop := Below w.heap.size w W ∧ w.heap.size + 1 < W.heap.size ∧ (W.cell? ⟨w.heap.size, 0, none⟩ = some (.int .i64 a) ∧ W.cell? ⟨w.heap.size, 1, none⟩ = some (.int .i64 b) ∧ W.cell? ⟨w.heap.size + 1, 0, none⟩ = some (.int .i64 c) ∧ W.cell? ⟨w.heap.size + 1, 1, none⟩ = some (.int .i64 d))

theorem Inv.step {w W W' : World} {a b c d : Int} (h : Inv w a b c d W) (hb : Below W.heap.size W W') : Inv w a b c d W' :=
  ⟨h.1.trans (hb.mono h.1.size), Nat.lt_of_lt_of_le h.2.1 hb.size, two_below h.2.2 hb h.2.1⟩

theorem Inv.alloc {w W : World} {a b c d : Int} (h : Inv w a b c d W) (o : Obj) : Inv w a b c d (W.alloc o) := h.step ((Below.refl W.heap.size W).alloc (Nat.le_refl _) o)

theorem Inv.drew {w W : World} {a b c d : Int} (h : Inv w a b c d W) : Inv w a b c d W.drew := ⟨h.1.drew, h.2.1, h.2.2⟩

theorem Inv.new (w : World) (a b c d : Int) (t : TypeId) : Inv w a b c d ((w.alloc (.cells #[.int .i64 a, .int .i64 b] t)).alloc (.cells #[.int .i64 c, .int .i64 d] t)) :=
  ⟨((Below.refl _ _).alloc (Nat.le_refl _) _).alloc (by simp) _, by simp, two_new w a b c d w.heap.size rfl t⟩

theorem Inv.set {w W : World} {a b c d : Int} (h : Inv w a b c d W) {g : Nat} (hg : w.heap.size + 1 < g) (j : Nat) (v : Value) : Inv w a b c d (W.setCell ⟨g, j, none⟩ v) := by
  have hb : Below g W (W.setCell ⟨g, j, none⟩ v) := (Below.refl g W).setCell (Nat.le_refl _) _
  exact ⟨h.1.setCell (show w.heap.size ≤ g by omega) _, by rw [World.size_setCell]; exact h.2.1, two_below h.2.2 hb hg⟩

/-- Block g is a box of two numbers, which may be written. -/
def Box (W : World) (g : Nat) (x y : Int) : Prop := g < W.heap.size ∧ (W.cell? ⟨g, 0, none⟩ = some (.int .i64 x) ∧ W.cell? ⟨g, 1, none⟩ = some (.int .i64 y)) ∧ (W.frozen? ⟨g, 0, none⟩ = false ∧ W.frozen? ⟨g, 1, none⟩ = false)

theorem Box.new (W : World) (x y : Int) (t : TypeId) : Box (W.alloc (.cells #[.int .i64 x, .int .i64 y] t)) W.heap.size x y := ⟨by simp, by simp [go_sem], by simp [go_sem]⟩

theorem Box.step {W W' : World} {g : Nat} {x y : Int} (h : Box W g x y) (hb : Below W.heap.size W W') : Box W' g x y :=
  ⟨Nat.lt_of_lt_of_le h.1 hb.size, ⟨(hb.cell (p := ⟨g, 0, none⟩) h.1).trans h.2.1.1, (hb.cell (p := ⟨g, 1, none⟩) h.1).trans h.2.1.2⟩, ⟨(hb.frozen (p := ⟨g, 0, none⟩) h.1).trans h.2.2.1, (hb.frozen (p := ⟨g, 1, none⟩) h.1).trans h.2.2.2⟩⟩

theorem Box.drew {W : World} {g : Nat} {x y : Int} (h : Box W g x y) : Box W.drew g x y := h

theorem Box.alloc {W : World} {g : Nat} {x y : Int} (h : Box W g x y) (o : Obj) : Box (W.alloc o) g x y := h.step ((Below.refl W.heap.size W).alloc (Nat.le_refl _) o)

/-- The wide numbers ws lie in memory behind the address a, two cells each. -/
def Wides (w : World) (a : Option Addr) (ws : List (Int × Int)) : Prop :=
  0 < ws.length → ∃ b off, a = some ⟨b, off, none⟩ ∧ b < w.heap.size ∧ ∀ j, j < ws.length →
    w.cell? ⟨b, off + j * 2, none⟩ = some (.int .i64 (ws.getD j (0, 0)).1) ∧ w.cell? ⟨b, off + j * 2 + 1, none⟩ = some (.int .i64 (ws.getD j (0, 0)).2)

theorem Wides.below {w w' : World} {a : Option Addr} {ws : List (Int × Int)} {B : Nat} (h : Wides w a ws) (hb : Below B w w') (hB : w.heap.size ≤ B) : Wides w' a ws := by
  intro hp
  obtain ⟨b, off, rfl, hlt, hc⟩ := h hp
  refine ⟨b, off, rfl, by have := hb.size; omega, fun j hj => ?_⟩
  obtain ⟨c0, c1⟩ := hc j hj
  exact ⟨(hb.cell (p := ⟨b, off + j * 2, none⟩) (show b < B by omega)).trans c0, (hb.cell (p := ⟨b, off + j * 2 + 1, none⟩) (show b < B by omega)).trans c1⟩

theorem inB_true4 {n lo hi : Int} : inB4 n lo hi = true ↔ lo ≤ n ∧ n ≤ hi := by simp [inB4]

theorem inB_false4 {n lo hi : Int} : inB4 n lo hi = false ↔ n < lo ∨ hi < n := by
  cases h : inB4 n lo hi
  · simp [inB4] at h
    simp; omega
  · rw [inB_true4] at h
    simp; omega

def resV (a d : Int) : Int := if inB4 a 0 5 && inB4 d 0 65535 then 65536 * a + d else 0

theorem known_any (n : Int) (w : World) : Calls Tryd.prog 81 #[.int .i64 n] w fun e w' => e = .returned (.bool (inB4 n 0 5)) ∧ w = w' := by
  have HB : Hid (inB4 n 0 5 = (decide (0 ≤ n) && decide (n ≤ 5))) := rfl
  by_cases h0 : 0 ≤ n
  · by_cases h1 : n ≤ 5
    · go_enter Tryd.func81, Tryd.ntmps81
      go_wp2
      go_ret
      exact ⟨by rw [HB.out]; simp [h0, h1], rfl⟩
    · go_enter Tryd.func81, Tryd.ntmps81
      go_wp2
      go_ret
      exact ⟨by rw [HB.out]; simp [h0, h1], rfl⟩
  · go_enter Tryd.func81, Tryd.ntmps81
    go_wp2
    go_ret
    exact ⟨by rw [HB.out, decide_eq_false (show ¬ 0 ≤ n by omega)]; simp, rfl⟩

theorem result_any (a d : Int) (w : World) (ha : 0 ≤ a ∧ a ≤ 5) (hd : 0 ≤ d ∧ d ≤ 65535) : Calls Tryd.prog 82 #[.int .i64 a, .int .i64 d] w fun e w' => e = .returned (.int .i64 (65536 * a + d)) ∧ w = w' := by
  obtain ⟨a0, a5⟩ := ha
  obtain ⟨d0, d6⟩ := hd
  go_enter Tryd.func82, Tryd.ntmps82
  go_wp2
  go_ret
  exact ⟨ret_int (by omega), rfl⟩

theorem iResultOf_any (a d : Int) (w : World) : Calls Tryd.prog 45 #[.int .i64 a, .int .i64 d] w fun e w' => e = .returned (.int .i64 (resV a d)) ∧ w = w' := by
  obtain ⟨v, hv⟩ : ∃ v, v = resV a d := ⟨_, rfl⟩
  rw [← hv]
  cases hk : inB4 a 0 5
  · have HV : Hid (v = 0) := by rw [hv]; unfold Hid resV; rw [hk]; rfl
    clear hv
    go_enter Tryd.func45, Tryd.ntmps45
    go_wp2_with (go_at_call 81; refine (known_any _ _).mono ?_; rintro e w' ⟨rfl, rfl⟩)
    go_ret
    exact ⟨by rw [HV.out]; rfl, rfl⟩
  · by_cases h0 : d < 0
    · have HV : Hid (v = 0) := by rw [hv]; unfold Hid resV; rw [inB_false4.2 (.inl h0 : d < 0 ∨ 65535 < d)]; simp
      clear hv
      go_enter Tryd.func45, Tryd.ntmps45
      go_wp2_with (go_at_call 81; refine (known_any _ _).mono ?_; rintro e w' ⟨rfl, rfl⟩)
      go_ret
      exact ⟨by rw [HV.out]; rfl, rfl⟩
    · by_cases h1 : 65536 ≤ d
      · have HV : Hid (v = 0) := by rw [hv]; unfold Hid resV; rw [inB_false4.2 (.inr (by omega) : d < 0 ∨ 65535 < d)]; simp
        clear hv
        go_enter Tryd.func45, Tryd.ntmps45
        go_wp2_with (go_at_call 81; refine (known_any _ _).mono ?_; rintro e w' ⟨rfl, rfl⟩)
        go_ret
        exact ⟨by rw [HV.out]; rfl, rfl⟩
      · have HV : Hid (v = 65536 * a + d) := by rw [hv]; unfold Hid resV; rw [hk, inB_true4.2 (by omega : 0 ≤ d ∧ d ≤ 65535)]; rfl
        have HK : Hid (0 ≤ a ∧ a ≤ 5) := inB_true4.1 hk
        have HD : Hid (0 ≤ d ∧ d ≤ 65535) := by unfold Hid; omega
        clear hv
        go_enter Tryd.func45, Tryd.ntmps45
        go_wp2_with (first | (go_at_call 81; refine (known_any _ _).mono ?_; rintro e w' ⟨rfl, rfl⟩) | (go_at_call 82; refine (result_any _ _ _ HK.out HD.out).mono ?_; rintro e w' ⟨rfl, rfl⟩))
        go_ret
        exact ⟨by rw [HV.out]; rfl, rfl⟩

theorem sResultOf_any (a d : Int) (w : World) : Calls Tryd.prog 14 #[.int .i64 a, .int .i64 d] w fun e w' => e = .returned (.int .i64 (resV a d)) ∧ w = w' := by
  obtain ⟨v, hv⟩ : ∃ v, v = resV a d := ⟨_, rfl⟩
  rw [← hv]
  cases hk : inB4 a 0 5
  · have HV : Hid (v = 0) := by rw [hv]; unfold Hid resV; rw [hk]; rfl
    clear hv
    go_enter Tryd.func14, Tryd.ntmps14
    go_wp2_with (go_at_call 47; refine (in4_any _ _ _ _).mono ?_; rintro e w' ⟨rfl, rfl⟩)
    go_ret
    exact ⟨by rw [HV.out]; rfl, rfl⟩
  · cases hd : inB4 d 0 65535
    · have HV : Hid (v = 0) := by rw [hv]; unfold Hid resV; rw [hk, hd]; rfl
      clear hv
      go_enter Tryd.func14, Tryd.ntmps14
      go_wp2_with (go_at_call 47; refine (in4_any _ _ _ _).mono ?_; rintro e w' ⟨rfl, rfl⟩)
      go_ret
      exact ⟨by rw [HV.out]; rfl, rfl⟩
    · have HV : Hid (v = 65536 * a + d) := by rw [hv]; unfold Hid resV; rw [hk, hd]; rfl
      obtain ⟨k0, k1⟩ := inB_true4.1 hk
      obtain ⟨d0, d1⟩ := inB_true4.1 hd
      clear hv
      go_enter Tryd.func14, Tryd.ntmps14
      go_wp2_with (go_at_call 47; refine (in4_any _ _ _ _).mono ?_; rintro e w' ⟨rfl, rfl⟩)
      go_ret
      exact ⟨by rw [HV.out]; rfl, rfl⟩

/-- A condition in plain numbers. -/
structure CN where
  arg : Int
  mh : Int
  ml : Int
  cm : Int
  vh : Int
  vl : Int

def CN.l (c : CN) : List Value := [.int .i64 c.arg, .int .i64 c.mh, .int .i64 c.ml, .int .i64 c.cm, .int .i64 c.vh, .int .i64 c.vl]

def c0 : CN := ⟨0, 0, 0, 0, 0, 0⟩

def condB (c : CN) : Bool := inB4 c.arg 0 2 && inB4 c.cm 1 6 && wideB (c.mh, c.ml) && wideB (c.vh, c.vl)

structure RN where
  nums : List Int
  conds : List CN
  act : Int
  data : Int

def r0 : RN := ⟨[], [], 0, 0⟩

def outB (a d : Int) : Bool := inB4 a 0 5 && inB4 d 0 65535

def numsB (l : List Int) : Bool := decide (l.length ≤ 4) && (List.range l.length).all fun i => halfB (l.getD i 0) && (decide (i = 0) || decide (l.getD (i - 1) 0 < l.getD i 0))

def condsB (l : List CN) : Bool := decide (l.length ≤ 3) && l.all condB

def ruleB (r : RN) : Bool := outB r.act r.data && numsB r.nums && condsB r.conds

structure PN where
  arch : Int
  act : Int
  data : Int
  rules : List RN

end Go.Proofs.YthflflhcbnianaaDoor
