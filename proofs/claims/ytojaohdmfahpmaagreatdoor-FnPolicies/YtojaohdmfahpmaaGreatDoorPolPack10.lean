/- What impl.ActionName and spec.ActionName answer, of any number. -/
import Derived.Test.YtojaohdmfahpmaaGreatDoorRows
import Derived.Test.YtojaohdmfahpmaaGreatDoorPolPack1
import Derived.Test.YtojaohdmfahpmaaGreatDoorPolPack4
import Derived.WalkKit
import Derived.WalkSpells
import Derived.WalkSmall
import Derived.Below
import Derived.Laws.StructEq
import Derived.ChangeKeysEq
/- What impl's and spec's functions of one chapter answer: HalfOk, WideOk, WideCmp, WideAnd, of any numbers. -/
namespace Go.Proofs.YtojaohdmfahpmaaGreatDoor
open Go.RowKit
set_option linter.unusedVariables false

theorem iHalf_any (n : Int) (w : World) : Calls Tryz.prog 52 #[.int .i64 n] w fun e w' => e = .returned (.bool (halfB n)) ∧ w = w' := by
  obtain ⟨b, hb⟩ : ∃ b, b = halfB n := ⟨_, rfl⟩
  rw [← hb]
  have HB : Hid (b = halfB n) := hb
  clear hb
  by_cases h0 : 0 ≤ n
  · by_cases h1 : n ≤ 4294967295
    · go_enter Tryz.func52, Tryz.ntmps52
      go_wp2
      go_ret
      exact ⟨by rw [HB.out, halfB_true.2 ⟨h0, h1⟩]; simp, rfl⟩
    · go_enter Tryz.func52, Tryz.ntmps52
      go_wp2
      go_ret
      exact ⟨by rw [HB.out, halfB_false.2 (by omega)]; simp, rfl⟩
  · go_enter Tryz.func52, Tryz.ntmps52
    go_wp2
    go_ret
    exact ⟨by rw [HB.out, halfB_false.2 (by omega)]; simp, rfl⟩

/-- In lo .. hi. -/
def inB (n lo hi : Int) : Bool := decide (lo ≤ n) && decide (n ≤ hi)

theorem in_any (n lo hi : Int) (w : World) : Calls Tryz.prog 110 #[.int .i64 n, .int .i64 lo, .int .i64 hi] w fun e w' => e = .returned (.bool (inB n lo hi)) ∧ w = w' := by
  have HB : Hid (inB n lo hi = (decide (lo ≤ n) && decide (n ≤ hi))) := rfl
  by_cases h0 : lo ≤ n
  · by_cases h1 : n ≤ hi
    · go_enter Tryz.func110, Tryz.ntmps110
      go_wp2
      go_ret
      exact ⟨by rw [HB.out]; simp [h0, h1], rfl⟩
    · go_enter Tryz.func110, Tryz.ntmps110
      go_wp2
      go_ret
      exact ⟨by rw [HB.out]; simp [h0, h1], rfl⟩
  · go_enter Tryz.func110, Tryz.ntmps110
    go_wp2
    go_ret
    exact ⟨by rw [HB.out, decide_eq_false (show ¬ lo ≤ n by omega)]; simp, rfl⟩

theorem sHalf_any (n : Int) (w : World) : Calls Tryz.prog 71 #[.int .i64 n] w fun e w' => e = .returned (.bool (halfB n)) ∧ w = w' := by
  go_enter Tryz.func71, Tryz.ntmps71
  go_wp2_with (go_at_call 110; refine (in_any _ _ _ _).mono ?_; rintro e w' ⟨rfl, rfl⟩)
  go_ret
  exact ⟨rfl, rfl⟩

theorem iWide_any (a b : Int) (w : World) : Calls Tryz.prog 131 #[.agg #[.int .i64 a, .int .i64 b]] w fun e w' => e = .returned (.bool (wideB (a, b))) ∧ Below w.heap.size w w' := by
  have HB : Hid (wideB (a, b) = (halfB a && halfB b)) := rfl
  cases h0 : halfB a
  · go_enter Tryz.func131, Tryz.ntmps131
    go_wp2_with (go_at_call 52; refine (iHalf_any _ _).mono ?_; rintro e w' ⟨rfl, rfl⟩)
    go_ret
    exact ⟨by rw [HB.out, h0]; simp, (Below.refl _ _).alloc (Nat.le_refl _) _⟩
  · go_enter Tryz.func131, Tryz.ntmps131
    go_wp2_with (go_at_call 52; refine (iHalf_any _ _).mono ?_; rintro e w' ⟨rfl, rfl⟩)
    go_ret
    exact ⟨by rw [HB.out, h0]; simp, (Below.refl _ _).alloc (Nat.le_refl _) _⟩

theorem sWide_any (a b : Int) (w : World) : Calls Tryz.prog 129 #[.agg #[.int .i64 a, .int .i64 b]] w fun e w' => e = .returned (.bool (wideB (a, b))) ∧ Below w.heap.size w w' := by
  have HB : Hid (wideB (a, b) = (halfB a && halfB b)) := rfl
  cases h0 : halfB a
  · go_enter Tryz.func129, Tryz.ntmps129
    go_wp2_with (go_at_call 71; refine (sHalf_any _ _).mono ?_; rintro e w' ⟨rfl, rfl⟩)
    go_ret
    exact ⟨by rw [HB.out, h0]; simp, (Below.refl _ _).alloc (Nat.le_refl _) _⟩
  · go_enter Tryz.func129, Tryz.ntmps129
    go_wp2_with (go_at_call 71; refine (sHalf_any _ _).mono ?_; rintro e w' ⟨rfl, rfl⟩)
    go_ret
    exact ⟨by rw [HB.out, h0]; simp, (Below.refl _ _).alloc (Nat.le_refl _) _⟩

theorem two_below {w w' : World} {B g : Nat} {a b c d : Int} (h : (w.cell? ⟨g, 0, none⟩ = some (.int .i64 a) ∧ w.cell? ⟨g, 1, none⟩ = some (.int .i64 b) ∧ w.cell? ⟨g + 1, 0, none⟩ = some (.int .i64 c) ∧ w.cell? ⟨g + 1, 1, none⟩ = some (.int .i64 d))) (hb : Below B w w') (hB : g + 1 < B) : (w'.cell? ⟨g, 0, none⟩ = some (.int .i64 a) ∧ w'.cell? ⟨g, 1, none⟩ = some (.int .i64 b) ∧ w'.cell? ⟨g + 1, 0, none⟩ = some (.int .i64 c) ∧ w'.cell? ⟨g + 1, 1, none⟩ = some (.int .i64 d)) :=
  ⟨(hb.cell (p := ⟨g, 0, none⟩) (show g < B by omega)).trans h.1, (hb.cell (p := ⟨g, 1, none⟩) (show g < B by omega)).trans h.2.1, (hb.cell (p := ⟨g + 1, 0, none⟩) hB).trans h.2.2.1, (hb.cell (p := ⟨g + 1, 1, none⟩) hB).trans h.2.2.2⟩

theorem two_new (w : World) (a b c d : Int) (g : Nat) (hg : g = w.heap.size) (t : TypeId) : (((w.alloc (.cells #[.int .i64 a, .int .i64 b] t)).alloc (.cells #[.int .i64 c, .int .i64 d] t)).cell? ⟨g, 0, none⟩ = some (.int .i64 a) ∧ ((w.alloc (.cells #[.int .i64 a, .int .i64 b] t)).alloc (.cells #[.int .i64 c, .int .i64 d] t)).cell? ⟨g, 1, none⟩ = some (.int .i64 b) ∧ ((w.alloc (.cells #[.int .i64 a, .int .i64 b] t)).alloc (.cells #[.int .i64 c, .int .i64 d] t)).cell? ⟨g + 1, 0, none⟩ = some (.int .i64 c) ∧ ((w.alloc (.cells #[.int .i64 a, .int .i64 b] t)).alloc (.cells #[.int .i64 c, .int .i64 d] t)).cell? ⟨g + 1, 1, none⟩ = some (.int .i64 d)) := by
  subst hg; simp [go_sem]

/-- Behind w two wide numbers were boxed; nothing below has turned since. -/
def Inv (w : World) (a b c d : Int) (W : World) : Prop := Below w.heap.size w W ∧ w.heap.size + 1 < W.heap.size ∧ (W.cell? ⟨w.heap.size, 0, none⟩ = some (.int .i64 a) ∧ W.cell? ⟨w.heap.size, 1, none⟩ = some (.int .i64 b) ∧ W.cell? ⟨w.heap.size + 1, 0, none⟩ = some (.int .i64 c) ∧ W.cell? ⟨w.heap.size + 1, 1, none⟩ = some (.int .i64 d))

theorem Inv.step {w W W' : World} {a b c d : Int} (h : Inv w a b c d W) (hb : Below W.heap.size W W') : Inv w a b c d W' :=
  ⟨h.1.trans (hb.mono h.1.size), Nat.lt_of_lt_of_le h.2.1 hb.size, two_below h.2.2 hb h.2.1⟩

theorem Inv.alloc {w W : World} {a b c d : Int} (h : Inv w a b c d W) (o : Obj) : Inv w a b c d (W.alloc o) := h.step ((Below.refl W.heap.size W).alloc (Nat.le_refl _) o)

theorem Inv.drew {w W : World} {a b c d : Int} (h : Inv w a b c d W) : Inv w a b c d W.drew := ⟨h.1.drew, h.2.1, h.2.2⟩

theorem Inv.new (w : World) (a b c d : Int) (t : TypeId) : Inv w a b c d ((w.alloc (.cells #[.int .i64 a, .int .i64 b] t)).alloc (.cells #[.int .i64 c, .int .i64 d] t)) :=
  ⟨((Below.refl _ _).alloc (Nat.le_refl _) _).alloc (by simp) _, by simp, two_new w a b c d w.heap.size rfl t⟩

theorem Inv.set {w W : World} {a b c d : Int} (h : Inv w a b c d W) {g : Nat} (hg : w.heap.size + 1 < g) (j : Nat) (v : Value) : Inv w a b c d (W.setCell ⟨g, j, none⟩ v) := by
  have hb : Below g W (W.setCell ⟨g, j, none⟩ v) := (Below.refl g W).setCell (Nat.le_refl _) _
  exact ⟨h.1.setCell (show w.heap.size ≤ g by omega) _, by rw [World.size_setCell]; exact h.2.1, two_below h.2.2 hb hg⟩

/-- Block g is a box of two numbers, which may be written. -/
def Box (W : World) (g : Nat) (x y : Int) : Prop := g < W.heap.size ∧ (W.cell? ⟨g, 0, none⟩ = some (.int .i64 x) ∧ W.cell? ⟨g, 1, none⟩ = some (.int .i64 y)) ∧ (W.frozen? ⟨g, 0, none⟩ = false ∧ W.frozen? ⟨g, 1, none⟩ = false)

theorem Box.new (W : World) (x y : Int) (t : TypeId) : Box (W.alloc (.cells #[.int .i64 x, .int .i64 y] t)) W.heap.size x y := ⟨by simp, by simp [go_sem], by simp [go_sem]⟩

theorem Box.step {W W' : World} {g : Nat} {x y : Int} (h : Box W g x y) (hb : Below W.heap.size W W') : Box W' g x y :=
  ⟨Nat.lt_of_lt_of_le h.1 hb.size, ⟨(hb.cell (p := ⟨g, 0, none⟩) h.1).trans h.2.1.1, (hb.cell (p := ⟨g, 1, none⟩) h.1).trans h.2.1.2⟩, ⟨(hb.frozen (p := ⟨g, 0, none⟩) h.1).trans h.2.2.1, (hb.frozen (p := ⟨g, 1, none⟩) h.1).trans h.2.2.2⟩⟩

theorem Box.drew {W : World} {g : Nat} {x y : Int} (h : Box W g x y) : Box W.drew g x y := h

theorem Box.alloc {W : World} {g : Nat} {x y : Int} (h : Box W g x y) (o : Obj) : Box (W.alloc o) g x y := h.step ((Below.refl W.heap.size W).alloc (Nat.le_refl _) o)

/-- The wide numbers ws lie in memory behind the address a, two cells each. -/
def Wides (w : World) (a : Option Addr) (ws : List (Int × Int)) : Prop :=
  0 < ws.length → ∃ b off, a = some ⟨b, off, none⟩ ∧ b < w.heap.size ∧ ∀ j, j < ws.length →
    w.cell? ⟨b, off + j * 2, none⟩ = some (.int .i64 (ws.getD j (0, 0)).1) ∧ w.cell? ⟨b, off + j * 2 + 1, none⟩ = some (.int .i64 (ws.getD j (0, 0)).2)

theorem Wides.below {w w' : World} {a : Option Addr} {ws : List (Int × Int)} {B : Nat} (h : Wides w a ws) (hb : Below B w w') (hB : w.heap.size ≤ B) : Wides w' a ws := by
  intro hp
  obtain ⟨b, off, rfl, hlt, hc⟩ := h hp
  refine ⟨b, off, rfl, by have := hb.size; omega, fun j hj => ?_⟩
  obtain ⟨c0, c1⟩ := hc j hj
  exact ⟨(hb.cell (p := ⟨b, off + j * 2, none⟩) (show b < B by omega)).trans c0, (hb.cell (p := ⟨b, off + j * 2 + 1, none⟩) (show b < B by omega)).trans c1⟩

theorem callB_all {arch num : Int} {ws : List (Int × Int)} (h0 : halfB arch = true) (h1 : halfB num = true) (h : ws.length = 3) : callB arch num ws = ws.all wideB := by simp [callB, h0, h1, h]

theorem inB_true {n lo hi : Int} : inB n lo hi = true ↔ lo ≤ n ∧ n ≤ hi := by simp [inB]

theorem inB_false {n lo hi : Int} : inB n lo hi = false ↔ n < lo ∨ hi < n := by
  cases h : inB n lo hi
  · simp [inB] at h
    simp; omega
  · rw [inB_true] at h
    simp; omega

def nameV (a : Int) : ByteArray :=
  if a = 0 then ⟨#[107, 105, 108, 108]⟩ else if a = 1 then ⟨#[116, 114, 97, 112]⟩ else if a = 2 then ⟨#[101, 114, 114]⟩
  else if a = 3 then ⟨#[116, 114, 97, 99, 101]⟩ else if a = 4 then ⟨#[108, 111, 103]⟩ else if a = 5 then ⟨#[97, 108, 108, 111, 119]⟩ else ⟨#[]⟩

theorem known_any (n : Int) (w : World) : Calls Tryz.prog 93 #[.int .i64 n] w fun e w' => e = .returned (.bool (inB n 0 5)) ∧ w = w' := by
  have HB : Hid (inB n 0 5 = (decide (0 ≤ n) && decide (n ≤ 5))) := rfl
  by_cases h0 : 0 ≤ n
  · by_cases h1 : n ≤ 5
    · go_enter Tryz.func93, Tryz.ntmps93
      go_wp2
      go_ret
      exact ⟨by rw [HB.out]; simp [h0, h1], rfl⟩
    · go_enter Tryz.func93, Tryz.ntmps93
      go_wp2
      go_ret
      exact ⟨by rw [HB.out]; simp [h0, h1], rfl⟩
  · go_enter Tryz.func93, Tryz.ntmps93
    go_wp2
    go_ret
    exact ⟨by rw [HB.out, decide_eq_false (show ¬ 0 ≤ n by omega)]; simp, rfl⟩

/-- A condition in plain numbers. -/
structure CN where
  arg : Int
  mh : Int
  ml : Int
  cm : Int
  vh : Int
  vl : Int

def CN.l (c : CN) : List Value := [.int .i64 c.arg, .int .i64 c.mh, .int .i64 c.ml, .int .i64 c.cm, .int .i64 c.vh, .int .i64 c.vl]

def CN.v (c : CN) : Value := .agg #[.int .i64 c.arg, .int .i64 c.mh, .int .i64 c.ml, .int .i64 c.cm, .int .i64 c.vh, .int .i64 c.vl]

def c0 : CN := ⟨0, 0, 0, 0, 0, 0⟩

def condB (c : CN) : Bool := inB c.arg 0 2 && inB c.cm 1 6 && wideB (c.mh, c.ml) && wideB (c.vh, c.vl)

structure RN where
  nums : List Int
  conds : List CN
  act : Int
  data : Int

def r0 : RN := ⟨[], [], 0, 0⟩

def outB (a d : Int) : Bool := inB a 0 5 && inB d 0 65535

def numsB (l : List Int) : Bool := decide (l.length ≤ 4) && (List.range l.length).all fun i => halfB (l.getD i 0) && (decide (i = 0) || decide (l.getD (i - 1) 0 < l.getD i 0))

def condsB (l : List CN) : Bool := decide (l.length ≤ 3) && l.all condB

def ruleB (r : RN) : Bool := outB r.act r.data && numsB r.nums && condsB r.conds

structure PN where
  arch : Int
  act : Int
  data : Int
  rules : List RN

def policyB (p : PN) : Bool := halfB p.arch && outB p.act p.data && decide (p.rules.length ≤ 10) && p.rules.all ruleB

theorem all_get {α : Type} (l : List α) (p : α → Bool) (d : α) (k : Nat) (h : k < l.length) : (l.take (k + 1)).all p = ((l.take k).all p && p (l.getD k d)) := by
  rw [List.take_succ_eq_append_getElem h, List.all_append]
  simp [List.getD_eq_getElem?_getD, h]

theorem all_bad {α : Type} {l : List α} {p : α → Bool} {d : α} {k : Nat} (hk : k < l.length) (h : p (l.getD k d) = false) : l.all p = false := by
  rw [Bool.eq_false_iff]
  intro ha
  have := List.all_eq_true.1 ha (l.getD k d) (by rw [List.getD_eq_getElem?_getD, List.getElem?_eq_getElem hk]; exact List.getElem_mem hk)
  rw [h] at this
  exact Bool.noConfusion this

theorem all_end {α : Type} {l : List α} {p : α → Bool} {k : Nat} (hk : k = l.length) (h : (l.take k).all p = true) : l.all p = true := by
  rw [hk, List.take_of_length_le (Nat.le_refl _)] at h
  exact h

theorem name_any (n : Int) (w : World) : Calls Tryz.prog 97 #[.int .i64 n] w fun e w' => e = .returned (.string (nameV n)) ∧ w = w' := by
  obtain ⟨v, hv⟩ : ∃ v, v = nameV n := ⟨_, rfl⟩
  rw [← hv]
  by_cases h0 : n = 0
  · subst h0
    have HV : Hid (v = ⟨#[107, 105, 108, 108]⟩) := hv
    clear hv
    go_enter Tryz.func97, Tryz.ntmps97
    go_wp2
    go_ret
    exact ⟨by rw [HV.out]; rfl, rfl⟩
  by_cases h1 : n = 1
  · subst h1
    have HV : Hid (v = ⟨#[116, 114, 97, 112]⟩) := hv
    clear hv
    go_enter Tryz.func97, Tryz.ntmps97
    go_wp2
    go_ret
    exact ⟨by rw [HV.out]; rfl, rfl⟩
  by_cases h2 : n = 2
  · subst h2
    have HV : Hid (v = ⟨#[101, 114, 114]⟩) := hv
    clear hv
    go_enter Tryz.func97, Tryz.ntmps97
    go_wp2
    go_ret
    exact ⟨by rw [HV.out]; rfl, rfl⟩
  by_cases h3 : n = 3
  · subst h3
    have HV : Hid (v = ⟨#[116, 114, 97, 99, 101]⟩) := hv
    clear hv
    go_enter Tryz.func97, Tryz.ntmps97
    go_wp2
    go_ret
    exact ⟨by rw [HV.out]; rfl, rfl⟩
  by_cases h4 : n = 4
  · subst h4
    have HV : Hid (v = ⟨#[108, 111, 103]⟩) := hv
    clear hv
    go_enter Tryz.func97, Tryz.ntmps97
    go_wp2
    go_ret
    exact ⟨by rw [HV.out]; rfl, rfl⟩
  by_cases h5 : n = 5
  · subst h5
    have HV : Hid (v = ⟨#[97, 108, 108, 111, 119]⟩) := hv
    clear hv
    go_enter Tryz.func97, Tryz.ntmps97
    go_wp2
    go_ret
    exact ⟨by rw [HV.out]; rfl, rfl⟩
  have HV : Hid (v = ⟨#[]⟩) := by rw [hv]; unfold Hid nameV; simp [h0, h1, h2, h3, h4, h5]
  have q0 : (n == 0) = false := by simpa using h0
  have q1 : (n == 1) = false := by simpa using h1
  have q2 : (n == 2) = false := by simpa using h2
  have q3 : (n == 3) = false := by simpa using h3
  have q4 : (n == 4) = false := by simpa using h4
  have q5 : (n == 5) = false := by simpa using h5
  clear hv h0 h1 h2 h3 h4 h5
  go_enter Tryz.func97, Tryz.ntmps97
  go_wp2
  go_ret
  exact ⟨by rw [HV.out]; rfl, rfl⟩

theorem iName_any (n : Int) (w : World) : Calls Tryz.prog 56 #[.int .i64 n] w fun e w' => e = .returned (.string (nameV n)) ∧ w = w' := by
  go_enter Tryz.func56, Tryz.ntmps56
  go_wp2_with (go_at_call 97; refine (name_any _ _).mono ?_; rintro e w' ⟨rfl, rfl⟩)
  go_ret
  exact ⟨rfl, rfl⟩

def namesV : List Value := [.string ⟨#[107, 105, 108, 108]⟩, .string ⟨#[116, 114, 97, 112]⟩, .string ⟨#[101, 114, 114]⟩, .string ⟨#[116, 114, 97, 99, 101]⟩, .string ⟨#[108, 111, 103]⟩, .string ⟨#[97, 108, 108, 111, 119]⟩]

theorem names_any (w : World) : Calls Tryz.prog 76 #[] w fun e w' => e = .returned (.slice (some ⟨w.heap.size, 0, none⟩) 6 6) ∧ w' = w.alloc (.cells namesV.toArray 9) := by
  go_enter Tryz.func76, Tryz.ntmps76
  go_wp2
  go_ret
  exact ⟨rfl, rfl⟩

theorem sName_any (n : Int) (w : World) : Calls Tryz.prog 81 #[.int .i64 n] w fun e w' => e = .returned (.string (nameV n)) ∧ Below w.heap.size w w' := by
  obtain ⟨v, hv⟩ : ∃ v, v = nameV n := ⟨_, rfl⟩
  rw [← hv]
  cases hk : inB n 0 5
  · have HV : Hid (v = ⟨#[]⟩) := by
      rw [inB_false] at hk
      rw [hv]; unfold Hid nameV
      rw [if_neg (by omega), if_neg (by omega), if_neg (by omega), if_neg (by omega), if_neg (by omega), if_neg (by omega)]
    clear hv
    go_enter Tryz.func81, Tryz.ntmps81
    go_wp2_with (go_at_call 110; refine (in_any _ _ _ _).mono ?_; rintro e w' ⟨rfl, rfl⟩)
    go_ret
    exact ⟨by rw [HV.out]; rfl, Below.refl _ _⟩
  · obtain ⟨m, rfl⟩ : ∃ m : Nat, n = (m : Int) := ⟨n.toNat, by have := inB_true.1 hk; omega⟩
    have hm : m < 6 := by have := inB_true.1 hk; omega
    have hmi : (m : Int) < 6 := by omega
    have HN : Hid (namesV[m]? = some (.string v)) := by
      rw [hv]
      have : m = 0 ∨ m = 1 ∨ m = 2 ∨ m = 3 ∨ m = 4 ∨ m = 5 := by omega
      rcases this with rfl | rfl | rfl | rfl | rfl | rfl <;> rfl
    clear hv
    go_enter Tryz.func81, Tryz.ntmps81
    go_wp2_with (first | (go_at_call 110; refine (in_any _ _ _ _).mono ?_; rintro e w' ⟨rfl, rfl⟩) | fail)
    refine (names_any _).mono ?_
    rintro e w1 ⟨rfl, hw1⟩
    have hc : w1.cell? ⟨w.heap.size, m, none⟩ = some (.string v) := by
      rw [hw1, cell_of_row _ _ m namesV.toArray 9 (0, 0) (heap_alloc_new w _)]
      simpa using HN.out
    have HB : Hid (Below w.heap.size w w1) := by rw [hw1]; exact (Below.refl _ _).alloc (Nat.le_refl _) _
    clear hw1
    go_wp2
    go_ret
    exact ⟨rfl, HB.out⟩

end Go.Proofs.YtojaohdmfahpmaaGreatDoor
