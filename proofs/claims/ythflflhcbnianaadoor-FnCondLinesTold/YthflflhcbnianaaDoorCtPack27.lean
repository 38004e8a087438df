/- What spec's DrawCondLines and DrawRuleLines answer. -/
import Derived.Test.YthflflhcbnianaaDoorCtPack23
import Derived.Test.YthflflhcbnianaaDoorCtPack19
import Derived.Test.YthflflhcbnianaaDoorCtPack15
import Derived.Deep.Cut
import Derived.Deep.CutRange
import Derived.Deep.CutBlock
/- What spec's DrawCondOk, DrawRule, DrawCond and DrawCondHolds answer. -/
namespace Go.Proofs.YthflflhcbnianaaDoor
open Go.RowKit
set_option linter.unusedVariables false

theorem ext_newC {w w1 w2 : World} (h : Ext w w1) {p : Nat} (hp : w.heap.size ≤ p) (hg : w1.grownBy w2 (some p)) : Ext w w2 := h.grown hg h.size (fun k hk => by have := Option.some.inj hk; omega)

set_option maxRecDepth 100000 in
set_option maxHeartbeats 4000000 in
theorem drawCondOk_any (a : Option Addr) (len cap : Nat) (w : World) (hC : Came w a len) :
    Calls Tryd.prog 50 #[.slice a len cap] w fun e w' => ∃ ag mh ml cm vh vl : Int, e = .returned (.agg #[.int .i64 ag, .int .i64 mh, .int .i64 ml, .int .i64 cm, .int .i64 vh, .int .i64 vl]) ∧ Ext w w' := by
  have HC : Hid (Came w a len) := hC
  clear hC
  go_enter Tryd.func50, Tryd.ntmps50
  go_wp2_with fail
  refine (new_any a len cap _ (HC.out.below (Ext.one _ _))).mono ?_
  rintro e w1 ⟨rfl, hc1, hb1⟩
  have r1 := (Blk.new w [.int .i64 0, .int .i64 0, .int .i64 0, .int .i64 0, .int .i64 0, .int .i64 0] 27).ext hb1
  have HE : Hid (Ext w w1) := (Ext.one _ _).trans hb1
  have hs1 : w.heap.size + 1 < w1.heap.size := by have := hc1.lt; simpa using this
  have HC1 : Hid (Cur w1 (w.heap.size + 1) a len cap) := by simpa [Hid] using hc1
  clear hc1 hb1
  go_wp2_with fail
  refine (below_any 8 (w.heap.size + 1) a len cap _ HC1.out (by omega)).mono ?_
  rintro e w2 ⟨k, hk, _, _, rfl, hc2, hg2⟩
  have r2 := r1.grown hg2 (ne_some (by omega))
  have HE2 : Hid (Ext w w2) := ext_newC HE.out (by omega) hg2
  have HC2 : Hid (Cur w2 (w.heap.size + 1) a len cap) := hc2
  clear hc2 hg2 r1 HE HC1 hk
  go_wp2_with fail
  refine (cond_any (w.heap.size + 1) a len cap _ HC2.out).mono ?_
  rintro e w3 ⟨ag, mh, ml, cm, vh, vl, hcb, rfl, hc3, hg3⟩
  have HX : Hid (Blk w3 w.heap.size [.int .i64 0, .int .i64 0, .int .i64 0, .int .i64 0, .int .i64 0, .int .i64 0] 27 ∧ Cur w3 (w.heap.size + 1) a len cap ∧ Ext w w3 ∧ w.heap.size + 1 < w3.heap.size) := ⟨r2.grown hg3 (ne_some (by omega)), hc3, ext_newC HE2.out (by omega) hg3, hc3.lt⟩
  clear hc3 hg3 r2 HE2 HC2 hcb
  go_upto_block 0 with fail
  have hY : Hid (Ext w (w3.alloc (.cells #[.int .i64 ag, .int .i64 mh, .int .i64 ml, .int .i64 cm, .int .i64 vh, .int .i64 vl] 27)) ∧ Cur (w3.alloc (.cells #[.int .i64 ag, .int .i64 mh, .int .i64 ml, .int .i64 cm, .int .i64 vh, .int .i64 vl] 27)) (w.heap.size + 1) a len cap ∧ Blk (w3.alloc (.cells #[.int .i64 ag, .int .i64 mh, .int .i64 ml, .int .i64 cm, .int .i64 vh, .int .i64 vl] 27)) w.heap.size [.int .i64 0, .int .i64 0, .int .i64 0, .int .i64 0, .int .i64 0, .int .i64 0] 27) := ⟨HX.out.2.2.1.alloc _, HX.out.2.1.alloc _, HX.out.1.alloc _⟩
  have hB := Blk.new w3 [.int .i64 ag, .int .i64 mh, .int .i64 ml, .int .i64 cm, .int .i64 vh, .int .i64 vl] 27
  simp only [List.toArray] at hB
  have HB : Hid (w.heap.size + 1 < w3.heap.size) := HX.out.2.2.2
  clear HX
  generalize w3.alloc (.cells #[.int .i64 ag, .int .i64 mh, .int .i64 ml, .int .i64 cm, .int .i64 vh, .int .i64 vl] 27) = W5 at *
  obtain ⟨B, hBB⟩ : ∃ B, B = w3.heap.size := ⟨_, rfl⟩
  rw [← hBB] at HB hB ⊢
  clear hBB
  go_cut [] from 12 to 31 (fun W => ∃ xa xb xc xd xe xf : Int, Blk W B [.int .i64 xa, .int .i64 xb, .int .i64 xc, .int .i64 xd, .int .i64 xe, .int .i64 xf] 27 ∧ Blk W w.heap.size [.int .i64 0, .int .i64 0, .int .i64 0, .int .i64 0, .int .i64 0, .int .i64 0] 27 ∧ Ext w W)
  case rest =>
    obtain ⟨xa, xb, xc, xd, xe, xf, hX, hR, hE⟩ := hcut
    have HE : Hid (Ext w wc) := hE
    obtain ⟨s0, s1, s2, s3, s4, s5⟩ := (⟨hX.cell 0 _ rfl, hX.cell 1 _ rfl, hX.cell 2 _ rfl, hX.cell 3 _ rfl, hX.cell 4 _ rfl, hX.cell 5 _ rfl⟩ : _ ∧ _ ∧ _ ∧ _ ∧ _ ∧ _)
    obtain ⟨q0, q1, q2, q3, q4, q5⟩ := (⟨hR.cell 0 _ rfl, hR.cell 1 _ rfl, hR.cell 2 _ rfl, hR.cell 3 _ rfl, hR.cell 4 _ rfl, hR.cell 5 _ rfl⟩ : _ ∧ _ ∧ _ ∧ _ ∧ _ ∧ _)
    have fR := hR.free
    have hlt := hR.lt
    clear hX hR hE hY hB
    go_wp2
    refine bodyPost_ret (v := .agg #[.int .i64 xa, .int .i64 xb, .int .i64 xc, .int .i64 xd, .int .i64 xe, .int .i64 xf]) (by simp [results, Tryd.results50, go_sem, *]) rfl ⟨_, _, _, _, _, _, rfl, ?_⟩
    exact (((((HE.out.set (Nat.le_refl _) _ _).set (Nat.le_refl _) _ _).set (Nat.le_refl _) _ _).set (Nat.le_refl _) _ _).set (Nat.le_refl _) _ _).set (Nat.le_refl _) _ _
  case first =>
    have HB2 : Hid (Blk W5 B [.int .i64 ag, .int .i64 mh, .int .i64 ml, .int .i64 cm, .int .i64 vh, .int .i64 vl] 27) := hB
    by_cases k0 : (k : Int) = 0
    · have e0 : ((k : Int) == 0) = true := by simpa using k0
      clear k0 hB
      go_wp2_with fail
      refine (below_any 5 (w.heap.size + 1) a len cap _ hY.out.2.1 (by omega)).mono ?_
      rintro e w6 ⟨x, _, _, _, rfl, hc6, hg6⟩
      have b6 := HB2.out.grown hg6 (ne_some (by have := HB.out; omega))
      have H6 : Hid (Blk w6 w.heap.size [.int .i64 0, .int .i64 0, .int .i64 0, .int .i64 0, .int .i64 0, .int .i64 0] 27 ∧ Ext w w6 ∧ Blk w6 B [.int .i64 ag, .int .i64 mh, .int .i64 ml, .int .i64 cm, .int .i64 vh, .int .i64 vl] 27) := ⟨hY.out.2.2.grown hg6 (ne_some (by omega)), ext_newC hY.out.1 (by omega) hg6, b6⟩
      obtain ⟨q0, q1, q2, q3, q4, q5⟩ := (⟨b6.cell 0 _ rfl, b6.cell 1 _ rfl, b6.cell 2 _ rfl, b6.cell 3 _ rfl, b6.cell 4 _ rfl, b6.cell 5 _ rfl⟩ : _ ∧ _ ∧ _ ∧ _ ∧ _ ∧ _)
      have fX := b6.free
      have lX := b6.lt
      clear hc6 hg6 b6 hY HB2
      go_wp2
      go_meet
      case rel => exact ⟨_, _, _, _, _, _, H6.out.2.2.set 0 _, H6.out.1.other (by have := HB.out; omega) _ _, H6.out.2.1.set (by have := HB.out; omega) _ _⟩
    have e0 : ((k : Int) == 0) = false := by simpa using k0
    by_cases k1 : (k : Int) = 1
    · have e1 : ((k : Int) == 1) = true := by simpa using k1
      clear k0 k1 hB
      go_wp2_with fail
      refine (below_any 9 (w.heap.size + 1) a len cap _ hY.out.2.1 (by omega)).mono ?_
      rintro e w6 ⟨x, _, _, _, rfl, hc6, hg6⟩
      have b6 := HB2.out.grown hg6 (ne_some (by have := HB.out; omega))
      have H6 : Hid (Blk w6 w.heap.size [.int .i64 0, .int .i64 0, .int .i64 0, .int .i64 0, .int .i64 0, .int .i64 0] 27 ∧ Ext w w6 ∧ Blk w6 B [.int .i64 ag, .int .i64 mh, .int .i64 ml, .int .i64 cm, .int .i64 vh, .int .i64 vl] 27) := ⟨hY.out.2.2.grown hg6 (ne_some (by omega)), ext_newC hY.out.1 (by omega) hg6, b6⟩
      obtain ⟨q0, q1, q2, q3, q4, q5⟩ := (⟨b6.cell 0 _ rfl, b6.cell 1 _ rfl, b6.cell 2 _ rfl, b6.cell 3 _ rfl, b6.cell 4 _ rfl, b6.cell 5 _ rfl⟩ : _ ∧ _ ∧ _ ∧ _ ∧ _ ∧ _)
      have fX := b6.free
      have lX := b6.lt
      clear hc6 hg6 b6 hY HB2
      go_wp2
      go_meet
      case rel => exact ⟨_, _, _, _, _, _, H6.out.2.2.set 3 _, H6.out.1.other (by have := HB.out; omega) _ _, H6.out.2.1.set (by have := HB.out; omega) _ _⟩
    have e1 : ((k : Int) == 1) = false := by simpa using k1
    obtain ⟨q0, q1, q2, q3, q4, q5⟩ := (⟨hB.cell 0 _ rfl, hB.cell 1 _ rfl, hB.cell 2 _ rfl, hB.cell 3 _ rfl, hB.cell 4 _ rfl, hB.cell 5 _ rfl⟩ : _ ∧ _ ∧ _ ∧ _ ∧ _ ∧ _)
    have fX := hB.free
    have lX := hB.lt
    have HK : Hid (Blk W5 w.heap.size [.int .i64 0, .int .i64 0, .int .i64 0, .int .i64 0, .int .i64 0, .int .i64 0] 27 ∧ Ext w W5) := ⟨hY.out.2.2, hY.out.1⟩
    clear hB hY
    by_cases k2 : (k : Int) = 2
    · have e2 : ((k : Int) == 2) = true := by simpa using k2
      clear k0 k1 k2
      go_wp2
      go_meet
      case rel => exact ⟨_, _, _, _, _, _, HB2.out.set 1 _, HK.out.1.other (by have := HB.out; omega) _ _, HK.out.2.set (by have := HB.out; omega) _ _⟩
    have e2 : ((k : Int) == 2) = false := by simpa using k2
    by_cases k3 : (k : Int) = 3
    · have e3 : ((k : Int) == 3) = true := by simpa using k3
      clear k0 k1 k2 k3
      go_wp2
      go_meet
      case rel => exact ⟨_, _, _, _, _, _, HB2.out.set 5 _, HK.out.1.other (by have := HB.out; omega) _ _, HK.out.2.set (by have := HB.out; omega) _ _⟩
    have e3 : ((k : Int) == 3) = false := by simpa using k3
    clear k0 k1 k2 k3
    go_wp2
    go_meet
    case rel => exact ⟨_, _, _, _, _, _, HB2.out, HK.out.1, HK.out.2⟩

theorem Blk.drew {W : World} {k : Nat} {l : List Value} {t : TypeId} (h : Blk W k l t) : Blk W.drew k l t := h

theorem Wides.drew {W : World} {a : Option Addr} {ws : List (Int × Int)} (h : Wides W a ws) : Wides W.drew a ws := h

set_option maxRecDepth 100000 in
set_option maxHeartbeats 4000000 in
theorem drawCondLines_any (a : Option Addr) (len cap : Nat) (w : World) (hC : Came w a len) :
    Calls Tryd.prog 16 #[.slice a len cap] w fun e w' => ∃ ag mh ml cm vh vl : Int, e = .returned (.tuple #[.agg #[.int .i64 ag, .int .i64 mh, .int .i64 ml, .int .i64 cm, .int .i64 vh, .int .i64 vl], .string ⟨#[120]⟩, .string ⟨#[121, 101, 115]⟩, .string ⟨#[110, 111]⟩]) ∧ Ext w w' := by
  have HC : Hid (Came w a len) := hC
  clear hC
  go_enter Tryd.func16, Tryd.ntmps16
  go_wp2_with fail
  refine (drawCondOk_any a len cap _ (HC.out.below (Ext.one _ _))).mono ?_
  rintro e w1 ⟨ag, mh, ml, cm, vh, vl, rfl, hb1⟩
  have r1 := (Blk.new w [.int .i64 0, .int .i64 0, .int .i64 0, .int .i64 0, .int .i64 0, .int .i64 0] 27).ext hb1
  have HE : Hid (Ext w w1) := (Ext.one _ _).trans hb1
  obtain ⟨q0, q1, q2, q3, q4, q5⟩ := (⟨r1.cell 0 _ rfl, r1.cell 1 _ rfl, r1.cell 2 _ rfl, r1.cell 3 _ rfl, r1.cell 4 _ rfl, r1.cell 5 _ rfl⟩ : _ ∧ _ ∧ _ ∧ _ ∧ _ ∧ _)
  have f1 := r1.free
  have hlt := r1.lt
  clear r1 hb1
  go_wp2
  refine bodyPost_ret (v := .tuple #[.agg #[.int .i64 ag, .int .i64 mh, .int .i64 ml, .int .i64 cm, .int .i64 vh, .int .i64 vl], .string ⟨#[120]⟩, .string ⟨#[121, 101, 115]⟩, .string ⟨#[110, 111]⟩]) (by simp [results, Tryd.results16, go_sem, *]) rfl ⟨_, _, _, _, _, _, rfl, ?_⟩
  exact (((((HE.out.set (Nat.le_refl _) _ _).set (Nat.le_refl _) _ _).set (Nat.le_refl _) _ _).set (Nat.le_refl _) _ _).set (Nat.le_refl _) _ _).set (Nat.le_refl _) _ _

theorem conds_put {w : World} {a : Option Addr} {cs : List CN} (h : Conds w a cs) {k : Nat} (hk : ∀ b off, a = some ⟨b, off, none⟩ → b ≠ k) (i : Nat) (v : Value) : Conds (w.setCell ⟨k, i, none⟩ v) a cs :=
  h.kept (fun b o e => Below.heap_setCell _ _ _ _ (hk b o e)) (by rw [World.size_setCell]; exact Nat.le_refl _)

set_option maxRecDepth 100000 in
set_option maxHeartbeats 4000000 in
theorem drawRuleLines_any (a : Option Addr) (len cap : Nat) (w : World) (hC : Came w a len) :
    Calls Tryd.prog 17 #[.slice a len cap] w fun e w' => ∃ (cs : List CN) (a1 : Option Addr) (n1 c1 : Nat) (a2 : Option Addr) (n2 c2 : Nat) (ac da : Int), e = .returned (.tuple #[.agg #[.slice a1 n1 c1, .slice a2 n2 c2, .int .i64 ac, .int .i64 da], .string ⟨#[114]⟩, .string ⟨#[110, 111]⟩]) ∧ (n2 = cs.length ∧ cs.length ≤ 1048576 ∧ Conds w' a2 cs) ∧ Ext w w' := by
  have HC : Hid (Came w a len) := hC
  clear hC
  go_enter Tryd.func17, Tryd.ntmps17
  go_wp2_with fail
  refine (new_any a len cap _ (HC.out.below (Ext.one _ _))).mono ?_
  rintro e w1 ⟨rfl, hc1, hb1⟩
  have r1 := (Blk.new w [.slice none 0 0, .slice none 0 0, .int .i64 0, .int .i64 0] 47).ext hb1
  have HE : Hid (Ext w w1) := (Ext.one _ _).trans hb1
  have hs1 : w.heap.size + 1 < w1.heap.size := by have := hc1.lt; simpa using this
  have HC1 : Hid (Cur w1 (w.heap.size + 1) a len cap) := by simpa [Hid] using hc1
  clear hc1 hb1
  go_wp2_with fail
  refine (made_any (w.heap.size + 1) a len cap _ HC1.out).mono ?_
  rintro e w2 ⟨r, a1, n1, c1, a2, n2, c2, ac, da, hrb, hrs, rfl, hrn, hc2, hg2⟩
  obtain ⟨⟨a1', n1', c1', a2', n2', c2', e0, e1, e2, hn, hc, hf1, hf2⟩, _⟩ := hrn
  simp only [List.cons.injEq, Value.slice.injEq, Value.int.injEq, true_and, and_true] at e0
  obtain ⟨⟨rfl, rfl, rfl⟩, ⟨rfl, rfl, rfl⟩, hac, hda⟩ := e0
  have hs2 : w1.heap.size ≤ w2.heap.size := hg2.size
  have x2 := Blk.new w2 [.slice a1 n1 c1, .slice a2 n2 c2, .int .i64 ac, .int .i64 da] 47
  have HI : Hid (n2 = r.conds.length ∧ r.conds.length ≤ 1048576) := ⟨e2, hrs.2⟩
  have H2 : Hid (Cur (w2.alloc (.cells #[.slice a1 n1 c1, .slice a2 n2 c2, .int .i64 ac, .int .i64 da] 47)) (w.heap.size + 1) a len cap ∧ Ext w (w2.alloc (.cells #[.slice a1 n1 c1, .slice a2 n2 c2, .int .i64 ac, .int .i64 da] 47)) ∧ Blk (w2.alloc (.cells #[.slice a1 n1 c1, .slice a2 n2 c2, .int .i64 ac, .int .i64 da] 47)) w.heap.size [.slice none 0 0, .slice none 0 0, .int .i64 0, .int .i64 0] 47 ∧ Blk (w2.alloc (.cells #[.slice a1 n1 c1, .slice a2 n2 c2, .int .i64 ac, .int .i64 da] 47)) w2.heap.size [.slice a1 n1 c1, .slice a2 n2 c2, .int .i64 ac, .int .i64 da] 47 ∧ Conds (w2.alloc (.cells #[.slice a1 n1 c1, .slice a2 n2 c2, .int .i64 ac, .int .i64 da] 47)) a2 r.conds ∧ (∀ b off m, a2 = some ⟨b, off, m⟩ → w1.heap.size ≤ b ∧ b < w2.heap.size)) :=
    ⟨hc2.alloc _, (ext_newC HE.out (by omega) hg2).alloc _, (r1.grown hg2 (ne_some (by omega))).alloc _, x2, hc.kept (fun b o e => (Ext.one w2 _).block b (hf2 b o none e).2) (by simp), fun b off m e => hf2 b off m e⟩
  clear hrb hrs hac hda e1 e2 hn hc hf1 hf2 hc2 hg2 r1 HE HC1 x2
  go_wp2_with fail
  generalize w2.alloc (.cells #[.slice a1 n1 c1, .slice a2 n2 c2, .int .i64 ac, .int .i64 da] 47) = W5 at *
  refine (once_any 6 (w.heap.size + 1) a len cap _ H2.out.1 (by omega)).mono ?_
  rintro e w6 ⟨b, rfl, hc6, hg6⟩
  have H6 : Hid (Ext w w6 ∧ Blk w6 w.heap.size [.slice none 0 0, .slice none 0 0, .int .i64 0, .int .i64 0] 47 ∧ Blk w6 w2.heap.size [.slice a1 n1 c1, .slice a2 n2 c2, .int .i64 ac, .int .i64 da] 47 ∧ Conds w6 a2 r.conds) :=
    ⟨ext_newC H2.out.2.1 (by omega) hg6, H2.out.2.2.1.grown hg6 (ne_some (by omega)), H2.out.2.2.2.1.grown hg6 (ne_some (by omega)), H2.out.2.2.2.2.1.kept (fun b o e => hg6.block b (Nat.lt_of_lt_of_le (H2.out.2.2.2.2.2 b o none e).2 (by have := H2.out.2.2.2.1.lt; omega)) (ne_some (by have := (H2.out.2.2.2.2.2 b o none e).1; omega))) hg6.size⟩
  have HF : Hid (∀ b off m, a2 = some ⟨b, off, m⟩ → w1.heap.size ≤ b ∧ b < w2.heap.size) := H2.out.2.2.2.2.2
  clear hc6 hg6 H2
  have hs6 : w.heap.size + 1 < w2.heap.size := by omega
  obtain ⟨HE6, hR, hX, hCo⟩ := H6.out
  obtain ⟨q0, q1, q2, q3, t0, t1, t2, t3⟩ := (⟨hR.cell 0 _ rfl, hR.cell 1 _ rfl, hR.cell 2 _ rfl, hR.cell 3 _ rfl, hX.cell 0 _ rfl, hX.cell 1 _ rfl, hX.cell 2 _ rfl, hX.cell 3 _ rfl⟩ : _ ∧ _ ∧ _ ∧ _ ∧ _ ∧ _ ∧ _ ∧ _)
  have f1 := hR.free
  have f2 := hX.free
  have l1 := hR.lt
  have l2 := hX.lt
  clear hR hX hCo HE6
  cases b
  · go_wp2
    refine bodyPost_ret (v := .tuple #[.agg #[.slice a1 n1 c1, .slice a2 n2 c2, .int .i64 ac, .int .i64 da], .string ⟨#[114]⟩, .string ⟨#[110, 111]⟩]) (by simp [results, Tryd.results17, go_sem, *]) rfl ⟨r.conds, _, _, _, _, _, _, _, _, rfl, ⟨HI.out.1, HI.out.2, ?_⟩, ?_⟩
    · have hn : ∀ b off, a2 = some ⟨b, off, none⟩ → b ≠ w.heap.size := fun b off e => by have := HF.out b off none e; omega
      exact conds_put (conds_put (conds_put (conds_put H6.out.2.2.2 hn _ _) hn _ _) hn _ _) hn _ _
    · exact (((H6.out.1.set (Nat.le_refl _) _ _).set (Nat.le_refl _) _ _).set (Nat.le_refl _) _ _).set (Nat.le_refl _) _ _
  · go_wp2
    refine bodyPost_ret (v := .tuple #[.agg #[.slice a1 n1 c1, .slice a2 n2 c2, .int .i64 9, .int .i64 da], .string ⟨#[114]⟩, .string ⟨#[110, 111]⟩]) (by simp [results, Tryd.results17, go_sem, *]) rfl ⟨r.conds, _, _, _, _, _, _, _, _, rfl, ⟨HI.out.1, HI.out.2, ?_⟩, ?_⟩
    · have hn : ∀ b off, a2 = some ⟨b, off, none⟩ → b ≠ w.heap.size := fun b off e => by have := HF.out b off none e; omega
      have hm : ∀ b off, a2 = some ⟨b, off, none⟩ → b ≠ w2.heap.size := fun b off e => by have := HF.out b off none e; omega
      exact conds_put (conds_put (conds_put (conds_put (conds_put H6.out.2.2.2 hm _ _) hn _ _) hn _ _) hn _ _) hn _ _
    · exact ((((H6.out.1.set (show w.heap.size ≤ w2.heap.size by omega) _ _).set (Nat.le_refl _) _ _).set (Nat.le_refl _) _ _).set (Nat.le_refl _) _ _).set (Nat.le_refl _) _ _

end Go.Proofs.YthflflhcbnianaaDoor
