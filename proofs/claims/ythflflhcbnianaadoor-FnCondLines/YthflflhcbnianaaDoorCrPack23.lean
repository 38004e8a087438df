/- What spec's Run answers, of every program and every call. -/
import Derived.Test.YthflflhcbnianaaDoorCrPack21
import Derived.Deep.SlicePairs
import Derived.BigQuiet
import Derived.Deep.QuietTactic
import Derived.Deep.RegionHeld3
import Derived.Handy
import Derived.Test.YthflflhcbnianaaDoorCrPack18
/- Programs in memory: rows of words; a law's program opened. -/
namespace Go.Proofs.YthflflhcbnianaaDoor
open Go.ChangeShapes Go.WideShapes Go.ChangeAt Go.RowKit Go.Joins Go.Deep
set_option linter.unusedVariables false

/-- A word's four cells. -/
def Quad (w : World) (b o : Nat) (p : Wd) : Prop := w.cell? ⟨b, o, none⟩ = some (.int .i64 p.1) ∧ w.cell? ⟨b, o + 1, none⟩ = some (.int .i64 p.2.1) ∧ w.cell? ⟨b, o + 2, none⟩ = some (.int .i64 p.2.2.1) ∧ w.cell? ⟨b, o + 3, none⟩ = some (.int .i64 p.2.2.2)

theorem Quad.below {w w' : World} {b o B : Nat} {p : Wd} (h : Quad w b o p) (hb : Below B w w') (hB : b < B) : Quad w' b o p :=
  ⟨(hb.cell (p := ⟨b, o, none⟩) hB).trans h.1, (hb.cell (p := ⟨b, o + 1, none⟩) hB).trans h.2.1, (hb.cell (p := ⟨b, o + 2, none⟩) hB).trans h.2.2.1, (hb.cell (p := ⟨b, o + 3, none⟩) hB).trans h.2.2.2⟩

theorem Quad.lt {w : World} {b o : Nat} {p : Wd} (h : Quad w b o p) : b < w.heap.size := World.block_lt_of_cell? w _ h.1

/-- These words lie in a row from there on. -/
def Words (w : World) (a : Option Addr) (ws : List Wd) : Prop := 0 < ws.length → ∃ b off, a = some ⟨b, off, none⟩ ∧ ∀ j, j < ws.length → Quad w b (off + j * 4) (ws.getD j zeroW)

theorem Words.below {w w' : World} {a : Option Addr} {ws : List Wd} {B : Nat} (h : Words w a ws) (hb : Below B w w') (hB : w.heap.size ≤ B) : Words w' a ws := fun hp => by
  obtain ⟨b, off, ha, hc⟩ := h hp
  exact ⟨b, off, ha, fun j hj => (hc j hj).below hb (Nat.lt_of_lt_of_le (hc j hj).lt hB)⟩

theorem Words.ext {w w' : World} {a : Option Addr} {ws : List Wd} (h : Words w a ws) (hE : Ext w w') : Words w' a ws := h.below hE (Nat.le_refl _)

theorem Words.quad {w : World} {a : Option Addr} {ws : List Wd} (h : Words w a ws) {k : Nat} (hk : k < ws.length) {p : Wd} (hp : p = ws.getD k zeroW) : ∃ b off, a = some ⟨b, off, none⟩ ∧ Quad w b (off + k * 4) p := by
  obtain ⟨b, off, ha, hc⟩ := h (by omega)
  exact ⟨b, off, ha, by rw [hp]; exact hc k hk⟩

end Go.Proofs.YthflflhcbnianaaDoor

/- What impl's and spec's CheckProgram answer, of every program: the same plain test. -/
namespace Go.Proofs.YthflflhcbnianaaDoor
open Go.RowKit
set_option linter.unusedVariables false

theorem Ext.drewN {W W' : World} (h : Ext W W') (n : Nat) : Ext W (W'.drewN n) := Below.grown h (grown_drewN W' n none) h.size (fun k hk => by cases hk)

set_option maxHeartbeats 800000 in
theorem far_any (o k y n : Int) (w : World) : Calls Tryd.prog 78 #[.agg #[.int .i64 o, .int .i64 k, .int .i64 y, .int .i64 n]] w fun e w' => e = .returned (.int .i64 (farW (o, k, y, n))) ∧ Ext w w' := by
  obtain ⟨z, hz⟩ : ∃ z, z = farW (o, k, y, n) := ⟨_, rfl⟩
  rw [← hz]
  by_cases h7 : o = 7
  · have HZ : Hid (z = k) := by rw [hz]; show farW _ = _; unfold farW; simp [h7]
    clear hz
    subst h7
    go_enter Tryd.func78, Tryd.ntmps78
    go_wp2
    go_ret
    exact ⟨by rw [HZ.out]; rfl, Ext.one _ _⟩
  · have q7 : (o == 7) = false := by simpa using h7
    by_cases hy : n < y
    · have HZ : Hid (z = y) := by rw [hz]; show farW _ = _; unfold farW; simp [h7, hy]
      clear hz h7
      go_enter Tryd.func78, Tryd.ntmps78
      go_wp2
      go_ret
      exact ⟨by rw [HZ.out]; rfl, Ext.one _ _⟩
    · have HZ : Hid (z = n) := by rw [hz]; show farW _ = _; unfold farW; simp [h7, hy]
      clear hz h7
      go_enter Tryd.func78, Tryd.ntmps78
      go_wp2
      go_ret
      exact ⟨by rw [HZ.out]; rfl, Ext.one _ _⟩

set_option maxRecDepth 100000 in
set_option maxHeartbeats 2000000 in
theorem sCheck_any (a : Option Addr) (cap : Nat) (ws : List Wd) (w : World) (hl : ws.length ≤ 1048576) (h : Words w a ws) :
    Calls Tryd.prog 39 #[.slice a ws.length cap] w fun e w' => e = .returned (.bool (checkP ws)) ∧ Ext w w' := by
  obtain ⟨n, hn⟩ : ∃ n, n = ws.length := ⟨_, rfl⟩
  obtain ⟨z, hz⟩ : ∃ z, z = checkP ws := ⟨_, rfl⟩
  have HA : Hid (Words w a ws ∧ n = ws.length ∧ z = checkP ws) := ⟨h, hn, hz⟩
  rw [← hn, ← hz]
  have hl' : n ≤ 1048576 := by omega
  clear h hn hl hz
  cases hf : inB n 1 400
  · have HT : Hid (z = false) := by unfold Hid; rw [HA.out.2.2]; exact checkQ_long (by rw [← HA.out.2.1]; exact hf)
    go_enter Tryd.func39, Tryd.ntmps39
    go_wp2_with (go_at_call 47; refine (in_any _ _ _ _).mono ?_; rintro e w' ⟨rfl, rfl⟩)
    go_ret
    exact ⟨by rw [HT.out]; rfl, Ext.refl _⟩
  have hn1 : 1 ≤ n := by rw [inB_true] at hf; omega
  have hn4 : n ≤ 400 := by rw [inB_true] at hf; omega
  go_enter Tryd.func39, Tryd.ntmps39
  go_wp2_with (go_at_call 47; refine (in_any _ _ _ _).mono ?_; rintro e w' ⟨rfl, rfl⟩)
  go_loopw [3] (fun i wr => ∃ k : Nat, i = .int .i64 k ∧ k ≤ n ∧ Hid (Ext w wr ∧ ∀ j, j < k → goodP n j (ws.getD j zeroW))) (fun i _ => n - (intOf i).toNat)
  case atStart => exact ⟨0, rfl, by omega, Ext.refl _, fun j hj => by omega⟩
  case round =>
    obtain ⟨k, rfl, hk, HR⟩ := hrel
    clear hf
    by_cases hlt : k < n
    · have bk : (k : Int) < (n : Int) := by omega
      obtain ⟨⟨o, kk, y, nn⟩, hp⟩ : ∃ p, p = ws.getD k zeroW := ⟨_, rfl⟩
      obtain ⟨b, off, rfl, hq⟩ := (HA.out.1.ext HR.out.1).quad (k := k) (by have := HA.out.2.1; omega) hp
      have HQ : Hid (Quad wr b (off + k * 4) (o, kk, y, nn)) := hq
      obtain ⟨c0, c1, c2, c3⟩ := hq
      simp only at c0 c1 c2 c3
      have HP : Hid ((o, kk, y, nn) = ws.getD k zeroW) := hp
      clear hp
      have HI : Hid (∀ w, Calls Tryd.prog 77 #[.agg #[.int .i64 o, .int .i64 kk, .int .i64 y, .int .i64 nn]] w fun e w' => e = .returned (.bool (okW (o, kk, y, nn))) ∧ Ext w w') := fun w => sInsOk_any o kk y nn w
      cases hok : okW (o, kk, y, nn)
      · rw [hok] at HI
        have HT : Hid (z = false) := by unfold Hid; rw [HA.out.2.2]; exact checkQ_notok (j := k) (by have := HA.out.2.1; omega) (by rw [← HP.out]; exact hok)
        clear hok
        go_wp2_with fail
        refine (HI.out _).mono ?_
        rintro e w2 ⟨rfl, e2⟩
        have E2 : Hid (Ext w w2) := HR.out.1.trans e2
        clear e2 HI c0 c1 c2 c3
        go_wp2
        go_ret
        exact ⟨by rw [HT.out]; rfl, E2.out⟩
      rw [hok] at HI
      by_cases h8 : o = 8
      · have HT : Hid (goodP n k (ws.getD k zeroW)) := by unfold Hid; rw [← HP.out]; exact ⟨hok, .inl h8⟩
        subst h8
        clear hok
        go_wp2_with fail
        refine (HI.out _).mono ?_
        rintro e w2 ⟨rfl, e2⟩
        have E2 : Hid (Ext w w2) := HR.out.1.trans e2
        obtain ⟨d0, d1, d2, d3⟩ := HQ.out.below e2 HQ.out.lt
        simp only at d0 d1 d2 d3
        clear e2 HI c0 c1 c2 c3
        go_wp2
        go_roundw
        case rel =>
          refine ⟨k + 1, by go_num, by omega, E2.out, fun j hj => ?_⟩
          by_cases hjk : j = k
          · rw [hjk]; exact HT.out
          · exact HR.out.2 j (by omega)
        case measure => simp [intOf]; omega
      · have q8 : (o == 8) = false := by simpa using h8
        have q8' : (o != 8) = true := by simpa using h8
        obtain ⟨fa, hfa⟩ : ∃ fa, fa = farW (o, kk, y, nn) := ⟨_, rfl⟩
        have f0 : 0 ≤ fa := by have := ways_far hok h8; omega
        have f4 : fa ≤ 400 := by have := ways_far hok h8; omega
        have HFR : Hid (∀ w, Calls Tryd.prog 78 #[.agg #[.int .i64 o, .int .i64 kk, .int .i64 y, .int .i64 nn]] w fun e w' => e = .returned (.int .i64 fa) ∧ Ext w w') := fun w => by rw [hfa]; exact far_any o kk y nn w
        by_cases hw : (k : Int) + 1 + fa < (n : Int)
        · have HT : Hid (goodP n k (ws.getD k zeroW)) := by unfold Hid; rw [← HP.out]; exact ⟨hok, .inr (by rw [← hfa]; exact hw)⟩
          clear hok h8 hfa
          go_wp2_with fail
          refine (HI.out _).mono ?_
          rintro e w2 ⟨rfl, e2⟩
          have E2 : Hid (Ext w w2) := HR.out.1.trans e2
          obtain ⟨d0, d1, d2, d3⟩ := HQ.out.below e2 HQ.out.lt
          simp only at d0 d1 d2 d3
          clear e2 HI c0 c1 c2 c3
          go_wp2_with fail
          refine (HFR.out _).mono ?_
          rintro e w3 ⟨rfl, e3⟩
          have E3 : Hid (Ext w w3) := E2.out.trans e3
          clear e3 HFR d0 d1 d2 d3 E2
          go_wp2
          go_roundw
          case rel =>
            refine ⟨k + 1, by go_num, by omega, E3.out, fun j hj => ?_⟩
            by_cases hjk : j = k
            · rw [hjk]; exact HT.out
            · exact HR.out.2 j (by omega)
          case measure => simp [intOf]; omega
        · have HT : Hid (z = false) := by
            unfold Hid; rw [HA.out.2.2]
            refine checkQ_bad (j := k) (by have := HA.out.2.1; omega) fun hg => ?_
            rw [← HP.out, ← HA.out.2.1] at hg
            rcases hg.2 with hg | hg
            · exact h8 hg
            · rw [← hfa] at hg; exact hw hg
          clear hok h8 hfa
          go_wp2_with fail
          refine (HI.out _).mono ?_
          rintro e w2 ⟨rfl, e2⟩
          have E2 : Hid (Ext w w2) := HR.out.1.trans e2
          obtain ⟨d0, d1, d2, d3⟩ := HQ.out.below e2 HQ.out.lt
          simp only at d0 d1 d2 d3
          clear e2 HI c0 c1 c2 c3
          go_wp2_with fail
          refine (HFR.out _).mono ?_
          rintro e w3 ⟨rfl, e3⟩
          have E3 : Hid (Ext w w3) := E2.out.trans e3
          clear e3 HFR d0 d1 d2 d3 E2
          go_wp2
          go_ret
          exact ⟨by rw [HT.out]; rfl, E3.out⟩
    · have hkn : k = n := by omega
      have bk : ¬ ((k : Int) < (n : Int)) := by omega
      obtain ⟨m, rfl⟩ : ∃ m, n = m + 1 := ⟨n - 1, by omega⟩
      have em : ((m + 1 : Nat) : Int) - 1 = (m : Int) := by omega
      obtain ⟨⟨o, kk, y, nn⟩, hp⟩ : ∃ p, p = ws.getD m zeroW := ⟨_, rfl⟩
      obtain ⟨b, off, rfl, c0, c1, c2, c3⟩ := (HA.out.1.ext HR.out.1).quad (k := m) (by have := HA.out.2.1; omega) hp
      simp only at c0 c1 c2 c3
      have HT : Hid (z = (o == 8)) := by
        unfold Hid; rw [HA.out.2.2]
        refine checkP_eq ?_
        unfold checkQ
        rw [← HA.out.2.1, Nat.add_sub_cancel, ← hp]
        refine ⟨fun h => ⟨by omega, fun j hj => HR.out.2 j (by omega), by simpa using h⟩, fun h => by simpa using h.2.2⟩
      have E2 : Hid (Ext w wr) := HR.out.1
      clear hkn hp
      go_wp2
      go_ret
      exact ⟨by rw [HT.out]; rfl, E2.out⟩

theorem none_iff {s : ByteArray} : s.toList = [] ↔ s = noText := by
  rw [ByteArray.toList_eq]
  constructor
  · intro h
    exact ByteArray.ext (Array.toList_inj.1 h)
  · intro h
    rw [h]
    rfl

theorem eqText (a b : ByteArray) : (a.toList == b.toList) = decide (a = b) := by
  by_cases h : a = b
  · subst h; simp
  · rw [decide_eq_false h, beq_eq_false_iff_ne, ByteArray.toList_eq, ByteArray.toList_eq]
    exact fun e => h (ByteArray.ext (Array.toList_inj.1 e))

def askB (o : Int) : Bool := decide (3 ≤ o) && decide (o ≤ 6)

theorem askB_true {o : Int} : askB o = true ↔ askP o := by unfold askB askP; simp

theorem askB_false {o : Int} : askB o = false ↔ ¬ askP o := by rw [← askB_true]; simp

theorem sPlace_any (l : Ln) (w : World) : Calls Tryd.prog 75 #[l.val] w fun e w' => e = .returned (.bool (decide (l.wd = zeroW))) ∧ Ext w w' := by
  obtain ⟨lab, ⟨o, k, y, n⟩, yes, no⟩ := l
  show Calls Tryd.prog 75 #[.agg #[.string lab, .int .i64 o, .int .i64 k, .int .i64 y, .int .i64 n, .string yes, .string no]] w fun e w' => e = .returned (.bool (decide ((o, k, y, n) = zeroW))) ∧ Ext w w'
  obtain ⟨z, hz⟩ : ∃ z, z = decide ((o, k, y, n) = zeroW) := ⟨_, rfl⟩
  rw [← hz]
  have HZ : Hid (z = true ↔ o = 0 ∧ k = 0 ∧ y = 0 ∧ n = 0) := by
    show _ ↔ _
    rw [hz]
    unfold zeroW
    simp [Prod.mk.injEq]
  clear hz
  by_cases h0 : o = 0 ∧ k = 0 ∧ y = 0 ∧ n = 0
  · obtain rfl : z = true := HZ.out.2 h0
    obtain ⟨rfl, rfl, rfl, rfl⟩ := h0
    go_enter Tryd.func75, Tryd.ntmps75
    go_wp2
    go_ret
    exact ⟨rfl, Ext.one _ _⟩
  · obtain rfl : z = false := by cases z with | false => rfl | true => exact absurd (HZ.out.1 rfl) h0
    have H0 : Hid (¬ (o = 0 ∧ k = 0 ∧ y = 0 ∧ n = 0)) := h0
    clear h0 HZ
    go_enter Tryd.func75, Tryd.ntmps75
    go_wp2
    all_goals first
      | exact absurd ⟨by assumption, by assumption, by assumption, by assumption⟩ H0.out
      | (go_ret; exact ⟨rfl, Ext.one _ _⟩)

theorem Tryd.infoN : (Tryd.prog.info? 36).map (fun i => (i.zero, i.size, i.bytes)) = some (some (.agg #[.int .i64 0, .int .i64 0, .int .i64 0, .int .i64 0]), 4, 32) := by kernel_rfl

theorem set_same {W : World} {a : Addr} {u : Value} (v : Value) (h : W.cell? a = some u) : (W.setCell a v).cell? a = some v := World.cell?_setCell_same _ _ _ h

theorem set_far {W : World} {a q : Addr} {v : Value} (h : q ≠ a) : (W.setCell a v).cell? q = W.cell? q := World.cell?_setCell_other _ _ _ _ (Ne.symm h)

theorem off_ne {g i j : Nat} (h : i ≠ j) : (⟨g, i, none⟩ : Addr) ≠ ⟨g, j, none⟩ := fun e => h (by injection e)

/-- The cells of words in a row. -/
def flatI (ws : List Wd) : List Value := ws.flatMap fun p => ints4 p.1 p.2.1 p.2.2.1 p.2.2.2

theorem flatI_at : ∀ (ws : List Wd) (j : Nat), j < ws.length → (flatI ws)[j * 4]? = some (.int .i64 (ws.getD j zeroW).1) ∧ (flatI ws)[j * 4 + 1]? = some (.int .i64 (ws.getD j zeroW).2.1) ∧ (flatI ws)[j * 4 + 2]? = some (.int .i64 (ws.getD j zeroW).2.2.1) ∧ (flatI ws)[j * 4 + 3]? = some (.int .i64 (ws.getD j zeroW).2.2.2)
  | p :: ws, 0, _ => by simp [flatI, ints4]
  | p :: ws, j + 1, h => by
    have ih := flatI_at ws j (by simpa using h)
    have e : ∀ i, (flatI (p :: ws))[(j + 1) * 4 + i]? = (flatI ws)[j * 4 + i]? := fun i => by
      have hf : flatI (p :: ws) = ints4 p.1 p.2.1 p.2.2.1 p.2.2.2 ++ flatI ws := by simp [flatI]
      rw [hf, List.getElem?_append_right (by simp [ints4]; omega)]
      congr 1
      simp [ints4]
      omega
    rw [e 1, e 2, e 3, ← Nat.add_zero ((j + 1) * 4), e 0]
    exact ih

/-- These words lie in a row of their own, not below B, which may be written. -/
def Own4 (w : World) (B : Nat) (v : Value) (ws : List Wd) : Prop := w.ownsRow B 36 4 v ws.length (flatI ws)

theorem Own4.words {w : World} {B : Nat} {v : Value} {ws : List Wd} (h : Own4 w B v ws) : ∃ a cap, v = .slice a ws.length cap ∧ ws.length ≤ cap ∧ Words w a ws ∧ (0 < ws.length → ∃ g, a = some ⟨g, 0, none⟩ ∧ B ≤ g ∧ ∀ j, w.frozen? ⟨g, j, none⟩ = false) := by
  have hown : w.ownsRow B 36 4 v ws.length (flatI ws) := h
  rcases h.2 with ⟨rfl, h0⟩ | ⟨g, cap, cur, rfl, hg, hh, hnc, hcp, hcs, htake⟩
  · exact ⟨none, 0, by rw [h0], by omega, fun hp => by omega, fun hp => by omega⟩
  · refine ⟨_, cap, rfl, hnc, fun hp => ⟨g, 0, rfl, fun j hj => ?_⟩, fun hp => ⟨g, rfl, hg, fun j => frozen_of_row w g j cur 36 hh⟩⟩
    obtain ⟨e0, e1, e2, e3⟩ := flatI_at ws j hj
    have cell : ∀ i v, (flatI ws)[i]? = some v → w.cell? ⟨g, i, none⟩ = some v := fun i v hv => by
      have hc := hown.cells (g := g) rfl i v hv
      rwa [Addr.add_lit, Nat.zero_add] at hc
    rw [Nat.zero_add]
    exact ⟨cell _ _ e0, cell _ _ e1, cell _ _ e2, cell _ _ e3⟩

theorem Own4.nil (w : World) (B : Nat) : Own4 w B (.slice none 0 0) [] := World.ownsRow_nil _ _ _ _

theorem Own4.lit (w : World) (B : Nat) (hB : B ≤ w.heap.size) : Own4 (w.alloc (.cells #[] 36)) B (.slice (some ⟨w.heap.size, 0, none⟩) 0 0) [] := World.ownsRow_lit (e := 36) (size := 4) w #[] 0 hB (by decide) rfl

theorem Own4.ext {w w' : World} {B : Nat} {v : Value} {ws : List Wd} (h : Own4 w B v ws) (hE : Ext w w') : Own4 w' B v ws := own_below h hE

theorem Own4.alloc {w : World} {B : Nat} {v : Value} {ws : List Wd} (h : Own4 w B v ws) (o : Obj) : Own4 (w.alloc o) B v ws := World.ownsRow.alloc h o

theorem num_eq {a b : Int} (h : a = b) : Value.int .i64 a = Value.int .i64 b := by rw [h]

/-- What a run gives: its result and how many words were done; 0 and 0, where the program or the call is not right. -/
def RunR (ws : List Wd) (arch num : Int) (cs : List (Int × Int)) (res : Int) (m : Nat) : Prop :=
  (checkP ws = true ∧ callB arch num cs = true ∧ ∃ f, Runs ws (fieldR arch num cs) f 0 0 0 res m) ∨ ((checkP ws = false ∨ callB arch num cs = false) ∧ res = 0 ∧ m = 0)

theorem runR_some (ws : List Wd) (arch num : Int) (cs : List (Int × Int)) : ∃ res m, RunR ws arch num cs res m := by
  cases hc : checkP ws
  · exact ⟨0, 0, .inr ⟨.inl hc, rfl, rfl⟩⟩
  cases hb : callB arch num cs
  · exact ⟨0, 0, .inr ⟨.inr hb, rfl, rfl⟩⟩
  obtain ⟨res, m, h⟩ := runs_some (fieldR arch num cs) hc ws.length 0 0 0 (by rw [checkP_true] at hc; have := hc.1; omega) (by omega)
  exact ⟨res, m, .inl ⟨hc, hb, _, h⟩⟩

set_option maxHeartbeats 1600000 in
theorem sAsks_any (r o k y n : Int) (w : World) (ho : o = 3 ∨ o = 4 ∨ o = 5 ∨ o = 6) :
    Calls Tryd.prog 42 #[.agg #[.int .i64 o, .int .i64 k, .int .i64 y, .int .i64 n], .int .i64 r] w fun e w' => e = .returned (.bool (asksW (o, k, y, n) r)) ∧ Ext w w' := by
  obtain ⟨z, hz⟩ : ∃ z, z = asksW (o, k, y, n) r := ⟨_, rfl⟩
  rw [← hz]
  rcases ho with rfl | rfl | rfl | rfl
  · have HZ : Hid (z = (r == k)) := hz
    clear hz
    go_enter Tryd.func42, Tryd.ntmps42
    go_wp2
    go_ret
    exact ⟨by rw [HZ.out]; rfl, Ext.one _ _⟩
  · have HZ : Hid (z = decide (k < r)) := hz
    clear hz
    go_enter Tryd.func42, Tryd.ntmps42
    go_wp2
    go_ret
    exact ⟨by rw [HZ.out]; rfl, Ext.one _ _⟩
  · have HZ : Hid (z = decide (k ≤ r)) := hz
    clear hz
    go_enter Tryd.func42, Tryd.ntmps42
    go_wp2
    go_ret
    exact ⟨by rw [HZ.out]; rfl, Ext.one _ _⟩
  · have HZ : Hid (z = (bits .and .i64 r k != 0)) := hz
    clear hz
    go_enter Tryd.func42, Tryd.ntmps42
    go_wp2
    go_ret
    exact ⟨by rw [HZ.out]; rfl, Ext.one _ _⟩

set_option maxRecDepth 100000 in
set_option maxHeartbeats 4000000 in
theorem sRun_any (a : Option Addr) (cap : Nat) (ws : List Wd) (arch num : Int) (cs : List (Int × Int)) (v : Value) (res : Int) (mm : Nat) (w : World) (hl : ws.length ≤ 1048576) (h : Words w a ws) (hcl : cs.length ≤ 1048576) (hR : RepCall arch num cs v w) (hres : RunR ws arch num cs res mm) :
    Calls Tryd.prog 10 #[.slice a ws.length cap, v] w fun e w' => e = .returned (.tuple #[.int .i64 res, .int .i64 (mm : Int)]) ∧ Ext w w' := by
  obtain ⟨n, hn⟩ : ∃ n, n = ws.length := ⟨_, rfl⟩
  obtain ⟨ca, cc, rfl, hw⟩ := hR
  obtain ⟨cl, hcl'⟩ : ∃ cl, cl = cs.length := ⟨_, rfl⟩
  have HA : Hid (Words w a ws ∧ n = ws.length) := ⟨h, hn⟩
  have HC : Hid (∀ w1, Ext w w1 → RepCall arch num cs (.agg #[.int .i64 arch, .int .i64 num, .slice ca cl cc]) w1) := fun w1 he => by rw [hcl']; exact RepCall.step ⟨ca, cc, rfl, hw⟩ he
  have HCK : Hid (∀ w1, Ext w w1 → Calls Tryd.prog 39 #[.slice a n cap] w1 fun e w' => e = .returned (.bool (checkP ws)) ∧ Ext w1 w') := fun w1 he => by rw [hn]; exact sCheck_any a cap ws w1 hl (h.ext he)
  have HCO : Hid (∀ w1, Ext w w1 → Calls Tryd.prog 40 #[.agg #[.int .i64 arch, .int .i64 num, .slice ca cl cc]] w1 fun e w' => e = .returned (.bool (callB arch num cs)) ∧ Ext w1 w') := fun w1 he => sCall_rep arch num cs _ w1 hcl (HC.out w1 he)
  have HFI : Hid (∀ k w1, Ext w w1 → Calls Tryd.prog 41 #[.agg #[.int .i64 arch, .int .i64 num, .slice ca cl cc], .int .i64 k] w1 fun e w' => e = .returned (.tuple #[.int .i64 (fieldR arch num cs k), .bool (fieldOk arch num cs k)]) ∧ Ext w1 w') := fun k w1 he => sField_rep arch num cs k _ w1 hcl (HC.out w1 he)
  have HRES : Hid (RunR ws arch num cs res mm) := hres
  have b0 : Hid (Blk (w.alloc (.cells #[.int .i64 arch, .int .i64 num, .slice ca cl cc] 30)) w.heap.size [.int .i64 arch, .int .i64 num, .slice ca cl cc] 30) := Blk.new w [.int .i64 arch, .int .i64 num, .slice ca cl cc] 30
  rw [← hn, ← hcl']
  have hl' : n ≤ 1048576 := by omega
  clear h hn hl hcl hcl' hres hw
  cases hck : checkP ws
  · have HZ : Hid (res = 0 ∧ mm = 0) := by
      rcases HRES.out with ⟨h, _⟩ | ⟨_, h⟩
      · rw [hck] at h; cases h
      · exact h
    rw [hck] at HCK
    clear hck
    go_enter Tryd.func10, Tryd.ntmps10
    go_wp2_with fail
    refine (HCK.out _ (Ext.one _ _)).mono ?_
    rintro e w1 ⟨rfl, e1⟩
    have E1 : Hid (Ext w w1) := (Ext.one _ _).trans e1
    clear e1
    go_wp2
    go_ret2
    exact ⟨by rw [HZ.out.1, HZ.out.2]; rfl, E1.out⟩
  cases hcb : callB arch num cs
  · have HZ : Hid (res = 0 ∧ mm = 0) := by
      rcases HRES.out with ⟨_, h, _⟩ | ⟨_, h⟩
      · rw [hcb] at h; cases h
      · exact h
    rw [hck] at HCK
    rw [hcb] at HCO
    clear hck hcb
    go_enter Tryd.func10, Tryd.ntmps10
    go_wp2_with fail
    refine (HCK.out _ (Ext.one _ _)).mono ?_
    rintro e w1 ⟨rfl, e1⟩
    have E1 : Hid (Ext w w1) := (Ext.one _ _).trans e1
    have b1 := b0.out.ext e1
    obtain ⟨q0, q1, q2⟩ := (⟨b1.cell 0 _ rfl, b1.cell 1 _ rfl, b1.cell 2 _ rfl⟩ : _ ∧ _ ∧ _)
    clear e1 b1
    go_wp2_with fail
    refine (HCO.out _ E1.out).mono ?_
    rintro e w2 ⟨rfl, e2⟩
    have E2 : Hid (Ext w w2) := E1.out.trans e2
    clear e2 q0 q1 q2
    go_wp2
    go_ret2
    exact ⟨by rw [HZ.out.1, HZ.out.2]; rfl, E2.out⟩
  have HRUN : Hid (∃ f, Runs ws (fieldR arch num cs) f 0 0 0 res mm) := by
    rcases HRES.out with ⟨_, _, h⟩ | ⟨h, _⟩
    · exact h
    · rcases h with h | h
      · rw [hck] at h; cases h
      · rw [hcb] at h; cases h
  have HCH : Hid (checkP ws = true) := hck
  have hn4 : 1 ≤ n ∧ n ≤ 400 := by have h := hck; rw [checkP_true] at h; have := h.1; have := HA.out.2; omega
  obtain ⟨hn1, hn4⟩ := hn4
  rw [hck] at HCK
  rw [hcb] at HCO
  clear hck hcb HRES
  go_enter Tryd.func10, Tryd.ntmps10
  go_wp2_with fail
  refine (HCK.out _ (Ext.one _ _)).mono ?_
  rintro e w1 ⟨rfl, e1⟩
  have E1 : Hid (Ext w w1) := (Ext.one _ _).trans e1
  have B1 : Hid (Blk w1 w.heap.size [.int .i64 arch, .int .i64 num, .slice ca cl cc] 30) := b0.out.ext e1
  obtain ⟨q0, q1, q2⟩ := (⟨B1.out.cell 0 _ rfl, B1.out.cell 1 _ rfl, B1.out.cell 2 _ rfl⟩ : _ ∧ _ ∧ _)
  clear e1 HCK
  go_wp2_with fail
  refine (HCO.out _ E1.out).mono ?_
  rintro e w2 ⟨rfl, e2⟩
  have E2 : Hid (Ext w w2) := E1.out.trans e2
  have B2 : Hid (Blk w2 w.heap.size [.int .i64 arch, .int .i64 num, .slice ca cl cc] 30) := B1.out.ext e2
  clear e2 q0 q1 q2 HCO B1 E1 b0
  go_wp2_with fail
  go_loopw [6, 7, 8] (fun v6 v7 v8 wr => ∃ (r : Int) (s i : Nat), v6 = .int .i64 r ∧ v7 = .int .i64 s ∧ v8 = .int .i64 i ∧ i < n ∧ s ≤ i ∧ Hid (Ext w wr ∧ Blk wr w.heap.size [.int .i64 arch, .int .i64 num, .slice ca cl cc] 30 ∧ ∃ f, Runs ws (fieldR arch num cs) f i r s res mm)) (fun _ _ v8 _ => n - (intOf v8).toNat)
  case atStart => exact ⟨0, 0, 0, rfl, rfl, rfl, by omega, by omega, E2.out, B2.out, HRUN.out⟩
  case round =>
    obtain ⟨r, s, i, rfl, rfl, rfl, hi, hs, HR⟩ := hrel
    have bi : (i : Int) < (n : Int) := by omega
    have hin : i < ws.length := by have := HA.out.2; omega
    obtain ⟨⟨o, k, y, nn⟩, hp⟩ : ∃ p, p = ws.getD i zeroW := ⟨_, rfl⟩
    have HP : Hid ((o, k, y, nn) = ws.getD i zeroW) := hp
    obtain ⟨b, off, rfl, c0, c1, c2, c3⟩ := (HA.out.1.ext HR.out.1).quad (k := i) hin hp
    simp only at c0 c1 c2 c3
    clear hp HRUN E2 B2
    by_cases h8 : o = 8
    · have HZ : Hid (res = k ∧ mm = s + 1) := by
        obtain ⟨f, hf⟩ := HR.out.2.2
        have := runs_ret hf (by rw [← HP.out]; exact h8)
        rw [← HP.out] at this
        exact this
      have E3 : Hid (Ext w wr) := HR.out.1
      subst h8
      clear hin
      go_wp2
      go_ret2
      exact ⟨by rw [HZ.out.1, HZ.out.2]; rfl, E3.out.alloc _⟩
    have h8' : (ws.getD i zeroW).1 ≠ 8 := by rw [← HP.out]; exact h8
    have hok := (check_ways HCH.out hin h8').1
    have hnx := next_lt HCH.out hin h8' r
    obtain ⟨f, hf⟩ := HR.out.2.2
    obtain ⟨f', hf'⟩ := runs_next hf h8'
    rw [← HP.out] at hok hnx hf'
    rw [okW_P] at hok
    unfold insP at hok
    simp only at hok
    obtain ⟨ov, hov⟩ : ∃ ov, ov = overW (o, k, y, nn) r := ⟨_, rfl⟩
    obtain ⟨rg, hrg⟩ : ∃ rg, rg = regW (fieldR arch num cs) (o, k, y, nn) r := ⟨_, rfl⟩
    rw [← hov, ← hrg] at hf'
    rw [← hov] at hnx
    obtain ⟨j, hj⟩ : ∃ j, j = i + 1 + ov.toNat := ⟨_, rfl⟩
    rw [← hj] at hf' hnx
    have hji : (j : Int) = (i : Int) + 1 + ov := by omega
    have hjn : j < n := by have := HA.out.2; omega
    have HF : Hid (∃ f, Runs ws (fieldR arch num cs) f j rg (s + 1) res mm) := ⟨f', hf'⟩
    have hov0 := hnx.2
    clear hf hf' h8' hnx hin
    have ho : o = 1 ∨ o = 2 ∨ (o = 3 ∨ o = 4 ∨ o = 5 ∨ o = 6) ∨ o = 7 := by omega
    rcases ho with rfl | rfl | ho | rfl
    · have hov1 : ov = 0 := hov
      have hrg1 : rg = fieldR arch num cs k := hrg
      have b1 := HR.out.2.1.alloc (.cells #[.int .i64 1, .int .i64 k, .int .i64 y, .int .i64 nn] 36)
      obtain ⟨q0, q1, q2⟩ := (⟨b1.cell 0 _ rfl, b1.cell 1 _ rfl, b1.cell 2 _ rfl⟩ : _ ∧ _ ∧ _)
      have FI : Hid (∀ w1, Ext w w1 → Calls Tryd.prog 41 #[.agg #[.int .i64 arch, .int .i64 num, .slice ca cl cc], .int .i64 k] w1 fun e w' => e = .returned (.tuple #[.int .i64 rg, .bool (fieldOk arch num cs k)]) ∧ Ext w1 w') := by rw [hrg1]; exact HFI.out k
      have hz := HR.out.2.1.lt
      clear hok hov hrg hrg1 b1
      go_wp2_with fail
      refine (FI.out _ (HR.out.1.alloc _)).mono ?_
      rintro e w3 ⟨rfl, e3⟩
      have E3 : Hid (Ext w w3) := (HR.out.1.alloc _).trans e3
      have B3 : Hid (Blk w3 w.heap.size [.int .i64 arch, .int .i64 num, .slice ca cl cc] 30) := (HR.out.2.1.alloc _).ext e3
      clear e3 q0 q1 q2 c0 c1 c2 c3
      go_wp2
      go_roundw
      case rel => exact ⟨rg, s + 1, j, rfl, num_eq (by omega), num_eq (by omega), hjn, by omega, E3.out, B3.out, HF.out⟩
      case measure => simp [intOf]; omega
    · have hov1 : ov = 0 := hov
      have hrg1 : rg = bits .and .i64 r k := hrg
      have E3 : Hid (Ext w wr) := HR.out.1
      have B3 : Hid (Blk wr w.heap.size [.int .i64 arch, .int .i64 num, .slice ca cl cc] 30) := HR.out.2.1
      clear hok hov hrg
      go_wp2
      go_roundw
      case rel => exact ⟨rg, s + 1, j, num_eq hrg1.symm, num_eq (by omega), num_eq (by omega), hjn, by omega, E3.out.alloc _, B3.out.alloc _, HF.out⟩
      case measure => simp [intOf]; omega
    · have hov1 : ov = if asksW (o, k, y, nn) r = true then y else nn := by rw [hov]; unfold overW; rw [if_pos (by simp only; omega)]
      have hrg1 : rg = r := by rw [hrg]; unfold regW; rw [if_neg (by simp only; omega), if_neg (by simp only; omega)]
      have AI : Hid (∀ w1, Calls Tryd.prog 42 #[.agg #[.int .i64 o, .int .i64 k, .int .i64 y, .int .i64 nn], .int .i64 r] w1 fun e w' => e = .returned (.bool (asksW (o, k, y, nn) r)) ∧ Ext w1 w') := fun w1 => sAsks_any r o k y nn w1 ho
      have hy15 : 0 ≤ y ∧ y ≤ 15 ∧ 0 ≤ nn ∧ nn ≤ 15 := by omega
      obtain ⟨hy0, hy15, hn0, hn15⟩ := hy15
      have HX : Hid (Blk (wr.alloc (.cells #[.int .i64 o, .int .i64 k, .int .i64 y, .int .i64 nn] 36)) wr.heap.size [.int .i64 o, .int .i64 k, .int .i64 y, .int .i64 nn] 36) := Blk.new wr [.int .i64 o, .int .i64 k, .int .i64 y, .int .i64 nn] 36
      clear hok hov hrg
      cases hq : asksW (o, k, y, nn) r
      · rw [hq] at AI
        rw [hq, if_neg (by simp)] at hov1
        clear hq
        rcases ho with rfl | rfl | rfl | rfl
        all_goals
          go_wp2_with fail
          refine (AI.out _).mono ?_
          rintro e w3 ⟨rfl, e3⟩
          have E3 : Hid (Ext w w3) := (HR.out.1.alloc _).trans e3
          have B3 : Hid (Blk w3 w.heap.size [.int .i64 arch, .int .i64 num, .slice ca cl cc] 30) := (HR.out.2.1.alloc _).ext e3
          have d2 := (HX.out.ext e3).cell 2 _ rfl
          have d3 := (HX.out.ext e3).cell 3 _ rfl
          clear e3 c0 c1 c2 c3
          go_wp2
          go_roundw
          case rel => exact ⟨rg, s + 1, j, num_eq hrg1.symm, num_eq (by omega), num_eq (by omega), hjn, by omega, E3.out, B3.out, HF.out⟩
          case measure => simp [intOf]; omega
      · rw [hq] at AI
        rw [hq, if_pos rfl] at hov1
        clear hq
        rcases ho with rfl | rfl | rfl | rfl
        all_goals
          go_wp2_with fail
          refine (AI.out _).mono ?_
          rintro e w3 ⟨rfl, e3⟩
          have E3 : Hid (Ext w w3) := (HR.out.1.alloc _).trans e3
          have B3 : Hid (Blk w3 w.heap.size [.int .i64 arch, .int .i64 num, .slice ca cl cc] 30) := (HR.out.2.1.alloc _).ext e3
          have d2 := (HX.out.ext e3).cell 2 _ rfl
          have d3 := (HX.out.ext e3).cell 3 _ rfl
          clear e3 c0 c1 c2 c3
          go_wp2
          go_roundw
          case rel => exact ⟨rg, s + 1, j, num_eq hrg1.symm, num_eq (by omega), num_eq (by omega), hjn, by omega, E3.out, B3.out, HF.out⟩
          case measure => simp [intOf]; omega
    · have hov1 : ov = k := hov
      have hrg1 : rg = r := hrg
      have hk2 : 0 ≤ k ∧ k ≤ 399 := by omega
      obtain ⟨hk0, hk9⟩ := hk2
      have E3 : Hid (Ext w wr) := HR.out.1
      have B3 : Hid (Blk wr w.heap.size [.int .i64 arch, .int .i64 num, .slice ca cl cc] 30) := HR.out.2.1
      clear hok hov hrg
      go_wp2
      go_roundw
      case rel => exact ⟨rg, s + 1, j, num_eq hrg1.symm, num_eq (by omega), num_eq (by omega), hjn, by omega, E3.out.alloc _, B3.out.alloc _, HF.out⟩
      case measure => simp [intOf]; omega

end Go.Proofs.YthflflhcbnianaaDoor
