/- What spec's LinesOk answers: whether lines are right. -/
import Derived.Test.YthflflhcbnianaaDoorCrPack23
import Derived.Maps.OwnSet
import Derived.Deep.SlicePairs
/- A map from texts to numbers, known as a function: what is found, put and struck. -/
namespace Go.Proofs.YthflflhcbnianaaDoor
open Go.RowKit Go.Maps
set_option linter.unusedVariables false

def keyS (s : ByteArray) : Lit := .string s.data.toList

/-- Block B is a map of at most n entries that has M. -/
def MapOf (W : World) (B n : Nat) (M : ByteArray → Option Nat) : Prop :=
  ∃ D : DataW Unit, W.ownsMap Tryd.prog 9 (plainElem Tryd.prog 3) B n D ∧ ∀ s, Maps.has D (keyS s) = (M s).isSome ∧ D.atKey (keyS s) (.lit (.int .i64 0)) = .lit (.int .i64 (((M s).getD 0 : Nat) : Int))

theorem MapOf.lt {W : World} {B n : Nat} {M : ByteArray → Option Nat} (h : MapOf W B n M) : B < W.heap.size := by
  obtain ⟨D, h1, _⟩ := h
  exact h1.lt

theorem MapOf.mono {W : World} {B n m : Nat} {M : ByteArray → Option Nat} (h : MapOf W B n M) (hm : n ≤ m) : MapOf W B m M := by
  obtain ⟨D, h1, h2⟩ := h
  exact ⟨D, h1.mono hm, h2⟩

theorem MapOf.kept {w w' : World} {B n : Nat} {M : ByteArray → Option Nat} {row : Option Nat} (h : MapOf w B n M) (hg : w.grownBy w' row) (hne : some B ≠ row) : MapOf w' B n M := by
  obtain ⟨D, h1, h2⟩ := h
  exact ⟨D, h1.kept hg hne, h2⟩

theorem MapOf.below {w w' : World} {B n C : Nat} {M : ByteArray → Option Nat} (h : MapOf w B n M) (hb : Below C w w') (hB : B < C) : MapOf w' B n M := by
  obtain ⟨D, ⟨es, clock, e1, e2⟩, h2⟩ := h
  exact ⟨D, ⟨es, clock, (hb.block B hB).trans e1, e2⟩, h2⟩

theorem MapOf.ext {w w' : World} {B n : Nat} {M : ByteArray → Option Nat} (h : MapOf w B n M) (hE : Ext w w') : MapOf w' B n M := h.below hE h.lt

/-- One that says the same. -/
theorem MapOf.as {w : World} {B n : Nat} {M N : ByteArray → Option Nat} (h : MapOf w B n M) (he : ∀ s, M s = N s) : MapOf w B n N := by
  obtain ⟨D, h1, h2⟩ := h
  exact ⟨D, h1, fun s => by rw [← he s]; exact h2 s⟩

/-- What is put. -/
def putM (M : ByteArray → Option Nat) (s : ByteArray) (v : Nat) : ByteArray → Option Nat := fun t => if t = s then some v else M t

/-! At the operation. -/
section
variable {P : Program} (w : World) {ops : Array Oper} {rest : List Oper} {o : Oper} {a : Act} {Q : Exit → Act → World → Prop}

end

end Go.Proofs.YthflflhcbnianaaDoor

/- Lines in memory: rows of them. -/
namespace Go.Proofs.YthflflhcbnianaaDoor
open Go.ChangeShapes Go.WideShapes Go.ChangeAt Go.RowKit Go.Joins Go.Deep
set_option linter.unusedVariables false

/-- A line's seven cells. -/
def Hept (w : World) (b o : Nat) (l : Ln) : Prop :=
  w.cell? ⟨b, o, none⟩ = some (.string l.lab) ∧ w.cell? ⟨b, o + 1, none⟩ = some (.int .i64 l.wd.1) ∧ w.cell? ⟨b, o + 2, none⟩ = some (.int .i64 l.wd.2.1) ∧ w.cell? ⟨b, o + 3, none⟩ = some (.int .i64 l.wd.2.2.1) ∧ w.cell? ⟨b, o + 4, none⟩ = some (.int .i64 l.wd.2.2.2) ∧ w.cell? ⟨b, o + 5, none⟩ = some (.string l.yes) ∧ w.cell? ⟨b, o + 6, none⟩ = some (.string l.no)

theorem Hept.below {w w' : World} {b o B : Nat} {l : Ln} (h : Hept w b o l) (hb : Below B w w') (hB : b < B) : Hept w' b o l :=
  ⟨(hb.cell (p := ⟨b, o, none⟩) hB).trans h.1, (hb.cell (p := ⟨b, o + 1, none⟩) hB).trans h.2.1, (hb.cell (p := ⟨b, o + 2, none⟩) hB).trans h.2.2.1, (hb.cell (p := ⟨b, o + 3, none⟩) hB).trans h.2.2.2.1, (hb.cell (p := ⟨b, o + 4, none⟩) hB).trans h.2.2.2.2.1, (hb.cell (p := ⟨b, o + 5, none⟩) hB).trans h.2.2.2.2.2.1, (hb.cell (p := ⟨b, o + 6, none⟩) hB).trans h.2.2.2.2.2.2⟩

theorem Hept.lt {w : World} {b o : Nat} {l : Ln} (h : Hept w b o l) : b < w.heap.size := World.block_lt_of_cell? w _ h.1

theorem Hept.ext {w w' : World} {b o : Nat} {l : Ln} (h : Hept w b o l) (hE : Ext w w') : Hept w' b o l := h.below hE h.lt

/-- A line laid in a block of its own. -/
theorem hept_box (w : World) (l : Ln) (T : TypeId) : Hept (w.alloc (.cells #[.string l.lab, .int .i64 l.wd.1, .int .i64 l.wd.2.1, .int .i64 l.wd.2.2.1, .int .i64 l.wd.2.2.2, .string l.yes, .string l.no] T)) w.heap.size 0 l :=
  ⟨by simp [go_sem], by simp [go_sem], by simp [go_sem], by simp [go_sem], by simp [go_sem], by simp [go_sem], by simp [go_sem]⟩

/-- These lines lie in a row from there on. -/
def Lns (w : World) (a : Option Addr) (ls : List Ln) : Prop := 0 < ls.length → ∃ b off, a = some ⟨b, off, none⟩ ∧ ∀ j, j < ls.length → Hept w b (off + j * 7) (ls.getD j zeroL)

theorem Lns.below {w w' : World} {a : Option Addr} {ls : List Ln} {B : Nat} (h : Lns w a ls) (hb : Below B w w') (hB : w.heap.size ≤ B) : Lns w' a ls := fun hp => by
  obtain ⟨b, off, ha, hc⟩ := h hp
  exact ⟨b, off, ha, fun j hj => (hc j hj).below hb (Nat.lt_of_lt_of_le (hc j hj).lt hB)⟩

theorem Lns.ext {w w' : World} {a : Option Addr} {ls : List Ln} (h : Lns w a ls) (hE : Ext w w') : Lns w' a ls := h.below hE (Nat.le_refl _)

theorem Lns.hept {w : World} {a : Option Addr} {ls : List Ln} (h : Lns w a ls) {k : Nat} (hk : k < ls.length) {l : Ln} (hl : l = ls.getD k zeroL) : ∃ b off, a = some ⟨b, off, none⟩ ∧ Hept w b (off + k * 7) l := by
  obtain ⟨b, off, ha, hc⟩ := h (by omega)
  exact ⟨b, off, ha, by rw [hl]; exact hc k hk⟩

/-- The map of the first n lines' places. -/
def upTo (ls : List Ln) : Nat → ByteArray → Option Nat
  | 0 => fun _ => none
  | n + 1 => if (ls.getD n zeroL).wd.1 = 0 then putM (upTo ls n) (ls.getD n zeroL).lab n else upTo ls n

end Go.Proofs.YthflflhcbnianaaDoor

/- What impl's placesOf answers: the map of all places, or that a label stands twice. -/
namespace Go.Proofs.YthflflhcbnianaaDoor
open Go.RowKit Go.Maps
set_option linter.unusedVariables false

end Go.Proofs.YthflflhcbnianaaDoor

/- What impl's lineFits answers: whether a line is right by itself. -/
namespace Go.Proofs.YthflflhcbnianaaDoor
open Go.RowKit
set_option linter.unusedVariables false

theorem bool_not {z : Bool} {P : Prop} (h : z = true ↔ P) (hp : ¬ P) : z = false := by
  cases z with
  | false => rfl
  | true => exact absurd (h.1 rfl) hp

theorem bool_some (P : Prop) : ∃ z : Bool, z = true ↔ P := by
  by_cases h : P
  · exact ⟨true, by simp [h]⟩
  · exact ⟨false, by simp [h]⟩

/-- The place of a label; -1 without it. -/
def atV (ls : List Ln) (s : ByteArray) : Int := if pos ls s < ls.length then (pos ls s : Int) else -1

theorem atV_on {ls : List Ln} {s : ByteArray} {i : Nat} : (i : Int) < atV ls s ↔ onP ls i s := by
  unfold atV onP
  split <;> omega

theorem atV_eq {ls : List Ln} {s : ByteArray} {i : Nat} (hi : i < ls.length) : atV ls s = (i : Int) ↔ pos ls s = i := by
  unfold atV
  have := pos_le ls s
  split <;> omega

set_option maxRecDepth 100000 in
set_option maxHeartbeats 2000000 in
theorem at_any (a : Option Addr) (cap : Nat) (ls : List Ln) (s : ByteArray) (w : World) (hl : ls.length ≤ 1048576) (h : Lns w a ls) :
    Calls Tryd.prog 76 #[.slice a ls.length cap, .string s] w fun e w' => e = .returned (.int .i64 (atV ls s)) ∧ Ext w w' := by
  obtain ⟨n, hn⟩ : ∃ n, n = ls.length := ⟨_, rfl⟩
  obtain ⟨v, hv⟩ : ∃ v, v = atV ls s := ⟨_, rfl⟩
  have HA : Hid (Lns w a ls ∧ n = ls.length ∧ v = atV ls s) := ⟨h, hn, hv⟩
  rw [← hn, ← hv]
  have hl' : n ≤ 1048576 := by omega
  clear h hn hl hv
  go_enter Tryd.func76, Tryd.ntmps76
  go_wp2_with fail
  go_loopw [5] (fun i wr => ∃ k : Nat, i = .int .i64 k ∧ k ≤ n ∧ Hid (Ext w wr ∧ ∀ j, j < k → isAt (ls.getD j zeroL) s = false)) (fun i _ => n - (intOf i).toNat)
  case atStart => exact ⟨0, rfl, by omega, Ext.refl _, fun j hj => by omega⟩
  case round =>
    obtain ⟨k, rfl, hk, HR⟩ := hrel
    by_cases hlt : k < n
    · have bk : (k : Int) < (n : Int) := by omega
      obtain ⟨⟨lab, ⟨o, kk, y, nn⟩, yes, no⟩, hp⟩ : ∃ p, p = ls.getD k zeroL := ⟨_, rfl⟩
      obtain ⟨b, off, ha, hq⟩ := (HA.out.1.ext HR.out.1).hept (k := k) (by have := HA.out.2; omega) hp
      subst ha
      have HQ : Hid (Hept wr b (off + k * 7) ⟨lab, (o, kk, y, nn), yes, no⟩) := hq
      obtain ⟨c0, c1, c2, c3, c4, c5, c6⟩ := hq
      simp only at c0 c1 c2 c3 c4 c5 c6
      have HP : Hid (Ln.mk lab (o, kk, y, nn) yes no = ls.getD k zeroL) := hp
      clear hp
      obtain ⟨z, hz⟩ : ∃ z, z = decide ((o, kk, y, nn) = zeroW) := ⟨_, rfl⟩
      have HPL : Hid (∀ w, Calls Tryd.prog 75 #[.agg #[.string lab, .int .i64 o, .int .i64 kk, .int .i64 y, .int .i64 nn, .string yes, .string no]] w fun e w' => e = .returned (.bool z) ∧ Ext w w') := fun w => by rw [hz]; exact sPlace_any ⟨lab, (o, kk, y, nn), yes, no⟩ w
      have HAT : Hid (isAt (ls.getD k zeroL) s = (z && (lab.toList == s.toList))) := by
        show _ = _
        rw [← HP.out, eqText, hz]
        rfl
      clear hz
      have HN1 : Hid (isAt (ls.getD k zeroL) s = false → ∀ j, j < k + 1 → isAt (ls.getD j zeroL) s = false) := fun h j hj => by
        rcases Nat.lt_or_ge j k with h1 | h1
        · exact HR.out.2 j h1
        · obtain rfl : j = k := by omega
          exact h
      cases z with
      | false =>
        go_wp2_with fail
        refine (HPL.out _).mono ?_
        rintro e w2 ⟨rfl, e2⟩
        have E2 : Hid (Ext w w2) := HR.out.1.trans e2
        clear e2 c0 c1 c2 c3 c4 c5 c6
        go_wp2
        go_roundw
        case rel => exact ⟨k + 1, by go_num, by omega, E2.out, HN1.out (by rw [HAT.out]; rfl)⟩
        case measure => simp [intOf]; omega
      | true =>
        by_cases he : (lab.toList == s.toList) = true
        · have HV : Hid (v = (k : Int)) := by
            show _ = _
            have hkl : k < ls.length := by have := HA.out.2.1; omega
            rw [HA.out.2.2, atV_eq hkl]
            exact pos_first hkl (by rw [HAT.out, he]; rfl) HR.out.2
          go_wp2_with fail
          refine (HPL.out _).mono ?_
          rintro e w2 ⟨rfl, e2⟩
          have E2 : Hid (Ext w w2) := HR.out.1.trans e2
          obtain ⟨d0, _⟩ := HQ.out.ext e2
          simp only at d0
          clear e2 c0 c1 c2 c3 c4 c5 c6
          go_wp2
          go_ret
          exact ⟨by rw [HV.out]; rfl, E2.out⟩
        · have he' : (lab.toList == s.toList) = false := by simpa using he
          clear he
          go_wp2_with fail
          refine (HPL.out _).mono ?_
          rintro e w2 ⟨rfl, e2⟩
          have E2 : Hid (Ext w w2) := HR.out.1.trans e2
          obtain ⟨d0, _⟩ := HQ.out.ext e2
          simp only at d0
          clear e2 c0 c1 c2 c3 c4 c5 c6
          go_wp2
          go_roundw
          case rel => exact ⟨k + 1, by go_num, by omega, E2.out, HN1.out (by rw [HAT.out, he']; rfl)⟩
          case measure => simp [intOf]; omega
    · have hkn : k = n := by omega
      have bk : ¬ ((k : Int) < (n : Int)) := by omega
      have HV : Hid (v = -1) := by
        show _ = _
        rw [HA.out.2.2]
        unfold atV
        rw [pos_none fun i hi => HR.out.2 i (by have := HA.out.2.1; omega), if_neg (Nat.lt_irrefl _)]
      clear hkn
      go_wp2
      go_ret
      exact ⟨by rw [HV.out]; rfl, HR.out.1⟩

set_option maxRecDepth 100000 in
set_option maxHeartbeats 4000000 in
theorem sLine_any (a : Option Addr) (cap : Nat) (ls : List Ln) (i : Nat) (z : Bool) (w : World) (hl : ls.length ≤ 1048576) (h : Lns w a ls) (hi : i < ls.length) (hz : z = true ↔ lineP ls i (ls.getD i zeroL)) :
    Calls Tryd.prog 96 #[.slice a ls.length cap, .int .i64 (i : Int)] w fun e w' => e = .returned (.bool z) ∧ Ext w w' := by
  obtain ⟨n, hn⟩ : ∃ n, n = ls.length := ⟨_, rfl⟩
  have bi : (i : Int) < (n : Int) := by omega
  obtain ⟨⟨lab, ⟨o, kk, y, nn⟩, yes, no⟩, hp⟩ : ∃ p, p = ls.getD i zeroL := ⟨_, rfl⟩
  obtain ⟨b, off, ha, hq⟩ := h.hept hi hp
  subst ha
  obtain ⟨c0, c1, c2, c3, c4, c5, c6⟩ := hq
  simp only at c0 c1 c2 c3 c4 c5 c6
  have HAT : Hid (∀ (s : ByteArray) (v : Int) (w' : World), v = atV ls s → Ext w w' → Calls Tryd.prog 76 #[.slice (some ⟨b, off, none⟩) n cap, .string s] w' fun e w'' => e = .returned (.int .i64 v) ∧ Ext w' w'') := fun s v w' hv he => by
    rw [hv, hn]
    exact at_any _ cap ls s w' hl (h.ext he)
  have HZ : Hid (z = true ↔ lineP ls i ⟨lab, (o, kk, y, nn), yes, no⟩) := by rw [hp]; exact hz
  have HI : Hid (i < ls.length) := hi
  rw [← hn]
  clear h hn hl hz hp hi
  obtain ⟨v1, hv1⟩ : ∃ v, v = atV ls lab := ⟨_, rfl⟩
  obtain ⟨v2, hv2⟩ : ∃ v, v = atV ls yes := ⟨_, rfl⟩
  obtain ⟨v3, hv3⟩ : ∃ v, v = atV ls no := ⟨_, rfl⟩
  have HA1 : Hid (v1 = atV ls lab) := hv1
  have HA2 : Hid (v2 = atV ls yes) := hv2
  have HA3 : Hid (v3 = atV ls no) := hv3
  have HP : Hid (pos ls lab = i ↔ v1 = (i : Int)) := by show _ ↔ _; rw [hv1, atV_eq HI.out]
  have HY : Hid (onP ls i yes ↔ (i : Int) < v2) := by show _ ↔ _; rw [hv2, atV_on]
  have HNO : Hid (onP ls i no ↔ (i : Int) < v3) := by show _ ↔ _; rw [hv3, atV_on]
  clear hv1 hv2 hv3
  have HD : Hid (∀ {w2 : World}, Ext (w.alloc (.cells #[.string lab, .int .i64 o, .int .i64 kk, .int .i64 y, .int .i64 nn, .string yes, .string no] 38)) w2 → Hept w2 w.heap.size 0 ⟨lab, (o, kk, y, nn), yes, no⟩) := fun e => (hept_box w ⟨lab, (o, kk, y, nn), yes, no⟩ 38).ext e
  by_cases hzero : o = 0 ∧ kk = 0 ∧ y = 0 ∧ nn = 0
  · obtain ⟨rfl, rfl, rfl, rfl⟩ := hzero
    have HPL : Hid (∀ w, Calls Tryd.prog 75 #[.agg #[.string lab, .int .i64 0, .int .i64 0, .int .i64 0, .int .i64 0, .string yes, .string no]] w fun e w' => e = .returned (.bool true) ∧ Ext w w') := fun w => sPlace_any ⟨lab, (0, 0, 0, 0), yes, no⟩ w
    obtain ⟨r, hr⟩ : ∃ r, r = inB lab.size 1 12 := ⟨_, rfl⟩
    have HR : Hid (z = true ↔ r = true ∧ yes.toList = [] ∧ no.toList = [] ∧ v1 = (i : Int)) := by
      show _ ↔ _
      rw [HZ.out, none_iff, none_iff, ← HP.out, hr, inB_true]
      unfold lineP
      constructor
      · rintro (⟨_, h1, h2, h3, h4⟩ | ⟨h0, _⟩)
        · simp only at h1
          exact ⟨by omega, h2, h3, h4⟩
        · exact absurd rfl h0
      · rintro ⟨h1, h2, h3, h4⟩
        exact .inl ⟨rfl, by simp only; omega, h2, h3, h4⟩
    have HIN : Hid (∀ w, Calls Tryd.prog 47 #[.int .i64 (lab.size : Int), .int .i64 1, .int .i64 12] w fun e w' => e = .returned (.bool r) ∧ w = w') := fun w => by rw [hr]; exact in_any _ _ _ w
    clear hr HZ HP HY HNO
    go_enter Tryd.func96, Tryd.ntmps96
    go_wp2_with fail
    refine (HPL.out _).mono ?_
    rintro e w2 ⟨rfl, e2⟩
    obtain ⟨d0, d1, d2, d3, d4, d5, d6⟩ := HD.out e2
    simp only [Nat.zero_add] at d0 d1 d2 d3 d4 d5 d6
    have E2 : Hid (Ext _ w2) := e2
    clear e2 c0 c1 c2 c3 c4 c5 c6 HPL
    cases r with
    | false =>
      obtain rfl : z = false := bool_not HR.out fun h => by cases h.1
      go_wp2_with fail
      refine (HIN.out _).mono ?_
      rintro e w3 ⟨rfl, rfl⟩
      go_wp2
      go_ret
      exact ⟨rfl, (Ext.one _ _).trans E2.out⟩
    | true =>
      go_wp2_with fail
      refine (HIN.out _).mono ?_
      rintro e w3 ⟨rfl, rfl⟩
      by_cases hy : yes.toList = []
      · by_cases hno : no.toList = []
        · go_wp2_with fail
          refine (HAT.out lab v1 _ HA1.out ((Ext.one _ _).trans E2.out)).mono ?_
          rintro e w4 ⟨rfl, e4⟩
          have E4 : Hid (Ext w w4) := ((Ext.one _ _).trans E2.out).trans e4
          clear e4
          by_cases hv : v1 = (i : Int)
          · obtain rfl : z = true := HR.out.2 ⟨by simp, hy, hno, hv⟩
            subst hv
            go_wp2
            go_ret
            exact ⟨rfl, E4.out⟩
          · obtain rfl : z = false := bool_not HR.out fun h => hv h.2.2.2
            have qv : (v1 == (i : Int)) = false := by simpa using hv
            clear hv
            go_wp2
            go_ret
            exact ⟨by simp, E4.out⟩
        · obtain rfl : z = false := bool_not HR.out fun h => hno h.2.2.1
          go_wp2
          go_ret
          exact ⟨rfl, (Ext.one _ _).trans E2.out⟩
      · obtain rfl : z = false := bool_not HR.out fun h => hy h.2.1
        go_wp2
        go_ret
        exact ⟨rfl, (Ext.one _ _).trans E2.out⟩
  · have hzw : (o, kk, y, nn) ≠ zeroW := fun h => hzero (by unfold zeroW at h; simpa [Prod.mk.injEq] using h)
    have HPL : Hid (∀ w, Calls Tryd.prog 75 #[.agg #[.string lab, .int .i64 o, .int .i64 kk, .int .i64 y, .int .i64 nn, .string yes, .string no]] w fun e w' => e = .returned (.bool false) ∧ Ext w w') := fun w => by have := sPlace_any ⟨lab, (o, kk, y, nn), yes, no⟩ w; simp only at this; rw [decide_eq_false hzw] at this; exact this
    obtain ⟨r, hr⟩ : ∃ r, r = insB o kk y nn := ⟨_, rfl⟩
    have HR : Hid (z = true ↔ lab.toList = [] ∧ y = 0 ∧ nn = 0 ∧ (o = 7 → kk = 0) ∧ r = true ∧ ((o = 7 ∧ no.toList = [] ∧ (i : Int) < v2) ∨ (askB o = true ∧ (i : Int) < v2 ∧ (i : Int) < v3) ∨ (o ≠ 7 ∧ askB o = false ∧ yes.toList = [] ∧ no.toList = []))) := by
      show _ ↔ _
      rw [HZ.out, none_iff, none_iff, none_iff, hr, ← HY.out, ← HNO.out, askB_true, askB_false]
      unfold lineP
      constructor
      · rintro (⟨h0, _⟩ | ⟨_, h⟩)
        · exact absurd h0 hzw
        · exact h
      · intro h
        exact .inr ⟨hzw, h⟩
    have HIN : Hid (∀ w, Calls Tryd.prog 77 #[.agg #[.int .i64 o, .int .i64 kk, .int .i64 y, .int .i64 nn]] w fun e w' => e = .returned (.bool r) ∧ Ext w w') := fun w => by rw [hr]; exact sInsOk_any o kk y nn w
    obtain ⟨q, hq⟩ : ∃ q, q = askB o := ⟨_, rfl⟩
    have HQ : Hid (∀ w, Calls Tryd.prog 38 #[.int .i64 o] w fun e w' => e = .returned (.bool q) ∧ w = w') := fun w => by rw [hq]; exact ask_any o w
    rw [← hq] at HR
    have HQ7 : Hid (o = 7 → q = false) := fun h => by rw [hq, h]; rfl
    clear hr hq hzw hzero HZ HP HY HNO
    go_enter Tryd.func96, Tryd.ntmps96
    go_wp2_with fail
    refine (HPL.out _).mono ?_
    rintro e w2 ⟨rfl, e2⟩
    obtain ⟨d0, d1, d2, d3, d4, d5, d6⟩ := HD.out e2
    simp only [Nat.zero_add] at d0 d1 d2 d3 d4 d5 d6
    have E2 : Hid (Ext w w2) := (Ext.one _ _).trans e2
    clear e2 c0 c1 c2 c3 c4 c5 c6 HPL
    obtain ⟨W, hW⟩ : ∃ W, W = w2.alloc (.cells #[.int .i64 o, .int .i64 kk, .int .i64 y, .int .i64 nn] 36) := ⟨_, rfl⟩
    have HE : Hid (Ext w W ∧ ∀ {w3 : World}, Ext W w3 → Hept w3 w.heap.size 0 ⟨lab, (o, kk, y, nn), yes, no⟩ ∧ Quad w3 w2.heap.size 0 (o, kk, y, nn)) := by
      refine ⟨by rw [hW]; exact E2.out.trans (Ext.one _ _), fun {w3} e3 => ⟨?_, ?_⟩⟩
      · have h2 : Hept w2 w.heap.size 0 ⟨lab, (o, kk, y, nn), yes, no⟩ := by
          refine ⟨?_, ?_, ?_, ?_, ?_, ?_, ?_⟩ <;> simp only [Nat.zero_add] <;> assumption
        have h3 : Hept W w.heap.size 0 ⟨lab, (o, kk, y, nn), yes, no⟩ := by rw [hW]; exact h2.ext (Ext.one _ _)
        exact h3.ext e3
      · have h3 : Quad W w2.heap.size 0 (o, kk, y, nn) := by
          rw [hW]
          exact ⟨by simp [go_sem], by simp [go_sem], by simp [go_sem], by simp [go_sem]⟩
        exact h3.below e3 h3.lt
    have HW : Hid (W = w2.alloc (.cells #[.int .i64 o, .int .i64 kk, .int .i64 y, .int .i64 nn] 36)) := hW
    clear hW
    obtain ⟨⟨x0, x1, x2, x3, x4, x5, x6⟩, _⟩ := HE.out.2 (Ext.refl W)
    simp only [Nat.zero_add] at x0 x1 x2 x3 x4 x5 x6
    rw [HW.out] at x0 x1 x2 x3 x4 x5 x6
    by_cases hla : lab.toList = []
    · by_cases hy0 : y = 0
      · by_cases hn0 : nn = 0
        · by_cases h7 : o = 7
          · by_cases hk : kk = 0
            · subst h7
              subst hy0
              subst hn0
              subst hk
              go_wp2_with fail
              rw [← HW.out]
              refine (HIN.out _).mono ?_
              rintro e w3 ⟨rfl, e3⟩
              obtain ⟨⟨f0, f1, f2, f3, f4, f5, f6⟩, ⟨g0, g1, g2, g3⟩⟩ := HE.out.2 e3
              simp only [Nat.zero_add] at f0 f1 f2 f3 f4 f5 f6 g0 g1 g2 g3
              have E3 : Hid (Ext w w3) := HE.out.1.trans e3
              clear e3 d0 d1 d2 d3 d4 d5 d6 x0 x1 x2 x3 x4 x5 x6 HE HW E2
              cases r with
              | false =>
                obtain rfl : z = false := bool_not HR.out fun h => by simpa using h.2.2.2.2.1
                go_wp2
                go_ret
                exact ⟨rfl, E3.out⟩
              | true =>
                by_cases hno : no.toList = []
                · go_wp2_with fail
                  refine (HAT.out yes v2 _ HA2.out E3.out).mono ?_
                  rintro e w4 ⟨rfl, e4⟩
                  have E4 : Hid (Ext w w4) := E3.out.trans e4
                  clear e4
                  by_cases hv : (i : Int) < v2
                  · obtain rfl : z = true := HR.out.2 ⟨hla, by simp, by simp, by simp, by simp, .inl ⟨by simp, hno, hv⟩⟩
                    go_wp2
                    go_ret
                    exact ⟨rfl, E4.out⟩
                  · obtain rfl : z = false := bool_not HR.out fun h => by
                      rcases h.2.2.2.2.2 with h | h | h
                      · exact hv h.2.2
                      · exact hv h.2.1
                      · exact absurd rfl h.1
                    go_wp2
                    go_ret
                    exact ⟨by simp_all, E4.out⟩
                · obtain rfl : z = false := bool_not HR.out fun h => by
                    rcases h.2.2.2.2.2 with h | h | h
                    · exact hno h.2.1
                    · have := HQ7.out (by simp); rw [this] at h; simp at h
                    · exact absurd rfl h.1
                  go_wp2
                  go_ret
                  exact ⟨rfl, E3.out⟩
            · obtain rfl : z = false := bool_not HR.out fun h => hk (h.2.2.2.1 h7)
              subst h7
              subst hy0
              subst hn0
              have qk : (kk != 0) = true := by simpa using hk
              clear hk
              go_wp2
              go_ret
              exact ⟨rfl, E2.out.trans (Ext.one _ _)⟩
          · subst hy0
            subst hn0
            have q7 : (o == 7) = false := by simpa using h7
            have H7 : Hid (o ≠ 7) := h7
            clear h7
            go_wp2_with fail
            rw [← HW.out]
            refine (HIN.out _).mono ?_
            rintro e w3 ⟨rfl, e3⟩
            obtain ⟨⟨f0, f1, f2, f3, f4, f5, f6⟩, ⟨g0, g1, g2, g3⟩⟩ := HE.out.2 e3
            simp only [Nat.zero_add] at f0 f1 f2 f3 f4 f5 f6 g0 g1 g2 g3
            have E3 : Hid (Ext w w3) := HE.out.1.trans e3
            clear e3 d0 d1 d2 d3 d4 d5 d6 x0 x1 x2 x3 x4 x5 x6 HE HW E2
            cases r with
            | false =>
              obtain rfl : z = false := bool_not HR.out fun h => by simpa using h.2.2.2.2.1
              go_wp2
              go_ret
              exact ⟨rfl, E3.out⟩
            | true =>
              go_wp2_with fail
              refine (HQ.out _).mono ?_
              rintro e w4 ⟨rfl, rfl⟩
              cases q with
              | true =>
                go_wp2_with fail
                refine (HAT.out yes v2 _ HA2.out E3.out).mono ?_
                rintro e w4 ⟨rfl, e4⟩
                have h4 := E3.out.trans e4
                have E4 : Hid (Ext w w4) := h4
                have f6' : w4.cell? ⟨w.heap.size, 6, none⟩ = some (.string no) := (e4.cell (p := ⟨w.heap.size, 6, none⟩) (World.block_lt_of_cell? _ _ f6)).trans f6
                clear e4 f0 f1 f2 f3 f4 f5 f6 g0 g1 g2 g3 h4 E3
                by_cases hv : (i : Int) < v2
                · go_wp2_with fail
                  refine (HAT.out no v3 _ HA3.out E4.out).mono ?_
                  rintro e w5 ⟨rfl, e5⟩
                  have E5 : Hid (Ext w w5) := E4.out.trans e5
                  clear e5
                  by_cases hv3 : (i : Int) < v3
                  · obtain rfl : z = true := HR.out.2 ⟨hla, by simp, by simp, fun h => absurd h H7.out, by simp, .inr (.inl ⟨by simp, hv, hv3⟩)⟩
                    go_wp2
                    go_ret
                    exact ⟨rfl, E5.out⟩
                  · obtain rfl : z = false := bool_not HR.out fun h => by
                      rcases h.2.2.2.2.2 with h | h | h
                      · exact absurd h.1 H7.out
                      · exact hv3 h.2.2
                      · simpa using h.2.1
                    go_wp2
                    go_ret
                    exact ⟨by simp_all, E5.out⟩
                · obtain rfl : z = false := bool_not HR.out fun h => by
                    rcases h.2.2.2.2.2 with h | h | h
                    · exact absurd h.1 H7.out
                    · exact hv h.2.1
                    · simpa using h.2.1
                  go_wp2
                  go_ret
                  exact ⟨rfl, E4.out⟩
              | false =>
                by_cases hy : yes.toList = []
                · by_cases hno : no.toList = []
                  · obtain rfl : z = true := HR.out.2 ⟨hla, by simp, by simp, fun h => absurd h H7.out, by simp, .inr (.inr ⟨H7.out, by simp, hy, hno⟩)⟩
                    go_wp2
                    go_ret
                    exact ⟨rfl, E3.out⟩
                  · obtain rfl : z = false := bool_not HR.out fun h => by
                      rcases h.2.2.2.2.2 with h | h | h
                      · exact absurd h.1 H7.out
                      · simpa using h.1
                      · exact hno h.2.2.2
                    go_wp2
                    go_ret
                    exact ⟨by simp_all, E3.out⟩
                · obtain rfl : z = false := bool_not HR.out fun h => by
                    rcases h.2.2.2.2.2 with h | h | h
                    · exact absurd h.1 H7.out
                    · simpa using h.1
                    · exact hy h.2.2.1
                  go_wp2
                  go_ret
                  exact ⟨rfl, E3.out⟩
        · obtain rfl : z = false := bool_not HR.out fun h => hn0 h.2.2.1
          subst hy0
          have qn : (nn != 0) = true := by simpa using hn0
          clear hn0
          go_wp2
          go_ret
          exact ⟨rfl, E2.out.trans (Ext.one _ _)⟩
      · obtain rfl : z = false := bool_not HR.out fun h => hy0 h.2.1
        have qy : (y != 0) = true := by simpa using hy0
        clear hy0
        go_wp2
        go_ret
        exact ⟨rfl, E2.out.trans (Ext.one _ _)⟩
    · obtain rfl : z = false := bool_not HR.out fun h => hla h.1
      go_wp2
      go_ret
      exact ⟨rfl, E2.out.trans (Ext.one _ _)⟩

set_option maxRecDepth 100000 in
set_option maxHeartbeats 4000000 in
theorem sLines_any (a : Option Addr) (cap : Nat) (ls : List Ln) (z : Bool) (w : World) (hl : ls.length ≤ 1048576) (h : Lns w a ls) (hz : z = true ↔ linesP ls) :
    Calls Tryd.prog 74 #[.slice a ls.length cap] w fun e w' => e = .returned (.bool z) ∧ Ext w w' := by
  obtain ⟨n, hn⟩ : ∃ n, n = ls.length := ⟨_, rfl⟩
  have HA : Hid (Lns w a ls ∧ n = ls.length ∧ (z = true ↔ (1 ≤ n ∧ n ≤ 600) ∧ (ls.getD (n - 1) zeroL).wd.1 = 8 ∧ ∀ i, i < n → lineP ls i (ls.getD i zeroL))) := ⟨h, hn, by rw [hn]; exact hz⟩
  rw [← hn]
  have hl' : n ≤ 1048576 := by omega
  clear h hn hl hz
  cases hf : inB n 1 600
  · have HN : Hid (z = false) := bool_not HA.out.2.2 fun h => by rw [inB_false] at hf; omega
    go_enter Tryd.func74, Tryd.ntmps74
    go_wp2_with (go_at_call 47; refine (in_any _ _ _ _).mono ?_; rintro e w' ⟨rfl, rfl⟩)
    go_ret
    exact ⟨by rw [HN.out]; rfl, Ext.refl _⟩
  obtain ⟨m, rfl⟩ : ∃ m, n = m + 1 := ⟨n - 1, by rw [inB_true] at hf; omega⟩
  have hm6 : m + 1 ≤ 600 := by rw [inB_true] at hf; omega
  have em : ((m + 1 : Nat) : Int) - 1 = (m : Int) := by omega
  obtain ⟨⟨lab, ⟨o, kk, y, nn⟩, yes, no⟩, hp⟩ : ∃ p, p = ls.getD m zeroL := ⟨_, rfl⟩
  obtain ⟨b, off, rfl, hq⟩ := HA.out.1.hept (k := m) (by have := HA.out.2.1; omega) hp
  have c1 := hq.2.1
  simp only at c1
  have HP : Hid (Ln.mk lab (o, kk, y, nn) yes no = ls.getD m zeroL) := hp
  clear hp hq
  by_cases h8 : o = 8
  · subst h8
    have HL : Hid (∀ (i : Nat) (v : Bool) (w' : World), i < m + 1 → Ext w w' → (v = true ↔ lineP ls i (ls.getD i zeroL)) → Calls Tryd.prog 96 #[.slice (some ⟨b, off, none⟩) (m + 1) cap, .int .i64 (i : Int)] w' fun e w'' => e = .returned (.bool v) ∧ Ext w' w'') := fun i v w' hi he hv => by
      have := sLine_any (some ⟨b, off, none⟩) cap ls i v w' (by have := HA.out.2.1; omega) (HA.out.1.ext he) (by have := HA.out.2.1; omega) hv
      rw [← HA.out.2.1] at this
      exact this
    go_enter Tryd.func74, Tryd.ntmps74
    go_wp2_with (go_at_call 47; refine (in_any _ _ _ _).mono ?_; rintro e w' ⟨rfl, rfl⟩)
    go_loopw [3] (fun i wr => ∃ k : Nat, i = .int .i64 k ∧ k ≤ m + 1 ∧ Hid (Ext w wr ∧ ∀ j, j < k → lineP ls j (ls.getD j zeroL))) (fun i _ => m + 1 - (intOf i).toNat)
    case atStart => exact ⟨0, rfl, by omega, Ext.refl _, fun j hj => by omega⟩
    case round =>
      obtain ⟨k, rfl, hk, HR⟩ := hrel
      clear c1
      by_cases hlt : k < m + 1
      · have bk : (k : Int) < ((m + 1 : Nat) : Int) := by omega
        obtain ⟨v, hv⟩ := bool_some (lineP ls k (ls.getD k zeroL))
        have HV : Hid (v = true ↔ lineP ls k (ls.getD k zeroL)) := hv
        clear hv
        go_wp2_with fail
        refine (HL.out k v _ hlt HR.out.1 HV.out).mono ?_
        rintro e w2 ⟨rfl, e2⟩
        have E2 : Hid (Ext w w2) := HR.out.1.trans e2
        clear e2
        cases v with
        | false =>
          have HN : Hid (z = false) := bool_not HA.out.2.2 fun h => by have := HV.out.2 (h.2.2 k hlt); cases this
          go_wp2
          go_ret
          exact ⟨by rw [HN.out]; rfl, E2.out⟩
        | true =>
          have HK : Hid (∀ j, j < k + 1 → lineP ls j (ls.getD j zeroL)) := fun j hj => by
            rcases Nat.lt_or_ge j k with h | h
            · exact HR.out.2 j h
            · obtain rfl : j = k := by omega
              exact HV.out.1 rfl
          go_wp2
          go_roundw
          case rel => exact ⟨k + 1, by go_num, by omega, E2.out, HK.out⟩
          case measure => simp [intOf]; omega
      · have hkn : k = m + 1 := by omega
        have bk : ¬ ((k : Int) < ((m + 1 : Nat) : Int)) := by omega
        have HN : Hid (z = true) := HA.out.2.2.2 ⟨by omega, by rw [Nat.add_sub_cancel, ← HP.out], fun i hi => HR.out.2 i (by omega)⟩
        clear hkn
        go_wp2
        go_ret
        exact ⟨by rw [HN.out]; rfl, HR.out.1⟩
  · have q8 : (o != 8) = true := by simpa using h8
    have HN : Hid (z = false) := bool_not HA.out.2.2 fun h => h8 (by have := h.2.1; rw [Nat.add_sub_cancel, ← HP.out] at this; exact this)
    clear h8
    go_enter Tryd.func74, Tryd.ntmps74
    go_wp2_with (go_at_call 47; refine (in_any _ _ _ _).mono ?_; rintro e w' ⟨rfl, rfl⟩)
    go_ret
    exact ⟨by rw [HN.out]; rfl, Ext.refl _⟩

end Go.Proofs.YthflflhcbnianaaDoor
