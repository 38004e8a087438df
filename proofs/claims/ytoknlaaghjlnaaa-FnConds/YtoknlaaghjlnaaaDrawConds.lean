/- What spec's DrawCondOk, DrawRule, DrawCond and DrawCondHolds answer. -/
import Derived.Test.YtoknlaaghjlnaaaDrawMade
import Derived.Test.YtoknlaaghjlnaaaDraw5
import Derived.Test.YtoknlaaghjlnaaaCondOkIS
import Derived.Test.YtoknlaaghjlnaaaWideMath2
import Derived.Deep.Cut
import Derived.Deep.CutRange
import Derived.Deep.CutBlock
namespace Go.Proofs.Ytoknlaaghjlnaaa
open Go.RowKit
set_option linter.unusedVariables false

theorem ext_newC {w w1 w2 : World} (h : Ext w w1) {p : Nat} (hp : w.heap.size ≤ p) (hg : w1.grownBy w2 (some p)) : Ext w w2 := h.grown hg h.size (fun k hk => by have := Option.some.inj hk; omega)

theorem ext_ofNone {W W' : World} (h : W.grownBy W' none) : Ext W W' := ⟨h.os, h.tape, h.output, h.size, fun k hk => h.block k hk (by simp)⟩

theorem wides_keptC {w w' : World} {a : Option Addr} {ws : List (Int × Int)} {row : Option Nat} (h : Wides w a ws) (hg : w.grownBy w' row) (hr : ∀ b off, a = some ⟨b, off, none⟩ → some b ≠ row) : Wides w' a ws := fun hp => by
  obtain ⟨b, off, ha, _, _⟩ := h hp
  subst ha
  exact h.grown hg (hr b off rfl) hp

/-- A right rule as its four cells. -/
def RightRule (w : World) (ac da : Int) (a1 : Option Addr) (n1 : Nat) (a2 : Option Addr) (n2 : Nat) : Prop := ∃ r : RN, ruleB r = true ∧ Small r ∧ r.act = ac ∧ r.data = da ∧ n1 = r.nums.length ∧ n2 = r.conds.length ∧ Nums w a1 r.nums ∧ Conds w a2 r.conds

def CallR (w : World) (arch num : Int) (a : Option Addr) (n : Nat) : Prop := ∃ ws : List (Int × Int), callB arch num ws = true ∧ n = ws.length ∧ Wides w a ws

def CallA (w : World) (a : Option Addr) (n : Nat) : Prop := ∃ ws : List (Int × Int), ws.length ≤ 3 ∧ n = ws.length ∧ Wides w a ws

set_option maxRecDepth 100000 in
set_option maxHeartbeats 4000000 in
theorem drawCondOk_any (a : Option Addr) (len cap : Nat) (w : World) (hC : Came w a len) :
    Calls Try.prog 25 #[.slice a len cap] w fun e w' => ∃ ag mh ml cm vh vl : Int, e = .returned (.agg #[.int .i64 ag, .int .i64 mh, .int .i64 ml, .int .i64 cm, .int .i64 vh, .int .i64 vl]) ∧ Ext w w' := by
  have HC : Hid (Came w a len) := hC
  clear hC
  go_enter Try.func25, Try.ntmps25
  go_wp2_with fail
  refine (new_any a len cap _ (HC.out.below (Ext.one _ _))).mono ?_
  rintro e w1 ⟨rfl, hc1, hb1⟩
  have r1 := (Blk.new w [.int .i64 0, .int .i64 0, .int .i64 0, .int .i64 0, .int .i64 0, .int .i64 0] 44).ext hb1
  have HE : Hid (Ext w w1) := (Ext.one _ _).trans hb1
  have hs1 : w.heap.size + 1 < w1.heap.size := by have := hc1.lt; simpa using this
  have HC1 : Hid (Cur w1 (w.heap.size + 1) a len cap) := by simpa [Hid] using hc1
  clear hc1 hb1
  go_wp2_with fail
  refine (below_any 8 (w.heap.size + 1) a len cap _ HC1.out (by omega)).mono ?_
  rintro e w2 ⟨k, hk, _, _, rfl, hc2, hg2⟩
  have r2 := r1.grown hg2 (ne_some (by omega))
  have HE2 : Hid (Ext w w2) := ext_newC HE.out (by omega) hg2
  have HC2 : Hid (Cur w2 (w.heap.size + 1) a len cap) := hc2
  clear hc2 hg2 r1 HE HC1 hk
  go_wp2_with fail
  refine (cond_any (w.heap.size + 1) a len cap _ HC2.out).mono ?_
  rintro e w3 ⟨ag, mh, ml, cm, vh, vl, hcb, rfl, hc3, hg3⟩
  have HX : Hid (Blk w3 w.heap.size [.int .i64 0, .int .i64 0, .int .i64 0, .int .i64 0, .int .i64 0, .int .i64 0] 44 ∧ Cur w3 (w.heap.size + 1) a len cap ∧ Ext w w3 ∧ w.heap.size + 1 < w3.heap.size) := ⟨r2.grown hg3 (ne_some (by omega)), hc3, ext_newC HE2.out (by omega) hg3, hc3.lt⟩
  clear hc3 hg3 r2 HE2 HC2 hcb
  go_upto_block 0 with fail
  have hY : Hid (Ext w (w3.alloc (.cells #[.int .i64 ag, .int .i64 mh, .int .i64 ml, .int .i64 cm, .int .i64 vh, .int .i64 vl] 44)) ∧ Cur (w3.alloc (.cells #[.int .i64 ag, .int .i64 mh, .int .i64 ml, .int .i64 cm, .int .i64 vh, .int .i64 vl] 44)) (w.heap.size + 1) a len cap ∧ Blk (w3.alloc (.cells #[.int .i64 ag, .int .i64 mh, .int .i64 ml, .int .i64 cm, .int .i64 vh, .int .i64 vl] 44)) w.heap.size [.int .i64 0, .int .i64 0, .int .i64 0, .int .i64 0, .int .i64 0, .int .i64 0] 44) := ⟨HX.out.2.2.1.alloc _, HX.out.2.1.alloc _, HX.out.1.alloc _⟩
  have hB := Blk.new w3 [.int .i64 ag, .int .i64 mh, .int .i64 ml, .int .i64 cm, .int .i64 vh, .int .i64 vl] 44
  simp only [List.toArray] at hB
  have HB : Hid (w.heap.size + 1 < w3.heap.size) := HX.out.2.2.2
  clear HX
  generalize w3.alloc (.cells #[.int .i64 ag, .int .i64 mh, .int .i64 ml, .int .i64 cm, .int .i64 vh, .int .i64 vl] 44) = W5 at *
  obtain ⟨B, hBB⟩ : ∃ B, B = w3.heap.size := ⟨_, rfl⟩
  rw [← hBB] at HB hB ⊢
  clear hBB
  go_cut [] from 12 to 31 (fun W => ∃ xa xb xc xd xe xf : Int, Blk W B [.int .i64 xa, .int .i64 xb, .int .i64 xc, .int .i64 xd, .int .i64 xe, .int .i64 xf] 44 ∧ Blk W w.heap.size [.int .i64 0, .int .i64 0, .int .i64 0, .int .i64 0, .int .i64 0, .int .i64 0] 44 ∧ Ext w W)
  case rest =>
    obtain ⟨xa, xb, xc, xd, xe, xf, hX, hR, hE⟩ := hcut
    have HE : Hid (Ext w wc) := hE
    obtain ⟨s0, s1, s2, s3, s4, s5⟩ := (⟨hX.cell 0 _ rfl, hX.cell 1 _ rfl, hX.cell 2 _ rfl, hX.cell 3 _ rfl, hX.cell 4 _ rfl, hX.cell 5 _ rfl⟩ : _ ∧ _ ∧ _ ∧ _ ∧ _ ∧ _)
    obtain ⟨q0, q1, q2, q3, q4, q5⟩ := (⟨hR.cell 0 _ rfl, hR.cell 1 _ rfl, hR.cell 2 _ rfl, hR.cell 3 _ rfl, hR.cell 4 _ rfl, hR.cell 5 _ rfl⟩ : _ ∧ _ ∧ _ ∧ _ ∧ _ ∧ _)
    have fR := hR.free
    have hlt := hR.lt
    clear hX hR hE hY hB
    go_wp2
    refine bodyPost_ret (v := .agg #[.int .i64 xa, .int .i64 xb, .int .i64 xc, .int .i64 xd, .int .i64 xe, .int .i64 xf]) (by simp [results, Try.results25, go_sem, *]) rfl ⟨_, _, _, _, _, _, rfl, ?_⟩
    exact (((((HE.out.set (Nat.le_refl _) _ _).set (Nat.le_refl _) _ _).set (Nat.le_refl _) _ _).set (Nat.le_refl _) _ _).set (Nat.le_refl _) _ _).set (Nat.le_refl _) _ _
  case first =>
    have HB2 : Hid (Blk W5 B [.int .i64 ag, .int .i64 mh, .int .i64 ml, .int .i64 cm, .int .i64 vh, .int .i64 vl] 44) := hB
    by_cases k0 : (k : Int) = 0
    · have e0 : ((k : Int) == 0) = true := by simpa using k0
      clear k0 hB
      go_wp2_with fail
      refine (below_any 5 (w.heap.size + 1) a len cap _ hY.out.2.1 (by omega)).mono ?_
      rintro e w6 ⟨x, _, _, _, rfl, hc6, hg6⟩
      have b6 := HB2.out.grown hg6 (ne_some (by have := HB.out; omega))
      have H6 : Hid (Blk w6 w.heap.size [.int .i64 0, .int .i64 0, .int .i64 0, .int .i64 0, .int .i64 0, .int .i64 0] 44 ∧ Ext w w6 ∧ Blk w6 B [.int .i64 ag, .int .i64 mh, .int .i64 ml, .int .i64 cm, .int .i64 vh, .int .i64 vl] 44) := ⟨hY.out.2.2.grown hg6 (ne_some (by omega)), ext_newC hY.out.1 (by omega) hg6, b6⟩
      obtain ⟨q0, q1, q2, q3, q4, q5⟩ := (⟨b6.cell 0 _ rfl, b6.cell 1 _ rfl, b6.cell 2 _ rfl, b6.cell 3 _ rfl, b6.cell 4 _ rfl, b6.cell 5 _ rfl⟩ : _ ∧ _ ∧ _ ∧ _ ∧ _ ∧ _)
      have fX := b6.free
      have lX := b6.lt
      clear hc6 hg6 b6 hY HB2
      go_wp2
      go_meet
      case rel => exact ⟨_, _, _, _, _, _, H6.out.2.2.set 0 _, H6.out.1.other (by have := HB.out; omega) _ _, H6.out.2.1.set (by have := HB.out; omega) _ _⟩
    have e0 : ((k : Int) == 0) = false := by simpa using k0
    by_cases k1 : (k : Int) = 1
    · have e1 : ((k : Int) == 1) = true := by simpa using k1
      clear k0 k1 hB
      go_wp2_with fail
      refine (below_any 9 (w.heap.size + 1) a len cap _ hY.out.2.1 (by omega)).mono ?_
      rintro e w6 ⟨x, _, _, _, rfl, hc6, hg6⟩
      have b6 := HB2.out.grown hg6 (ne_some (by have := HB.out; omega))
      have H6 : Hid (Blk w6 w.heap.size [.int .i64 0, .int .i64 0, .int .i64 0, .int .i64 0, .int .i64 0, .int .i64 0] 44 ∧ Ext w w6 ∧ Blk w6 B [.int .i64 ag, .int .i64 mh, .int .i64 ml, .int .i64 cm, .int .i64 vh, .int .i64 vl] 44) := ⟨hY.out.2.2.grown hg6 (ne_some (by omega)), ext_newC hY.out.1 (by omega) hg6, b6⟩
      obtain ⟨q0, q1, q2, q3, q4, q5⟩ := (⟨b6.cell 0 _ rfl, b6.cell 1 _ rfl, b6.cell 2 _ rfl, b6.cell 3 _ rfl, b6.cell 4 _ rfl, b6.cell 5 _ rfl⟩ : _ ∧ _ ∧ _ ∧ _ ∧ _ ∧ _)
      have fX := b6.free
      have lX := b6.lt
      clear hc6 hg6 b6 hY HB2
      go_wp2
      go_meet
      case rel => exact ⟨_, _, _, _, _, _, H6.out.2.2.set 3 _, H6.out.1.other (by have := HB.out; omega) _ _, H6.out.2.1.set (by have := HB.out; omega) _ _⟩
    have e1 : ((k : Int) == 1) = false := by simpa using k1
    obtain ⟨q0, q1, q2, q3, q4, q5⟩ := (⟨hB.cell 0 _ rfl, hB.cell 1 _ rfl, hB.cell 2 _ rfl, hB.cell 3 _ rfl, hB.cell 4 _ rfl, hB.cell 5 _ rfl⟩ : _ ∧ _ ∧ _ ∧ _ ∧ _ ∧ _)
    have fX := hB.free
    have lX := hB.lt
    have HK : Hid (Blk W5 w.heap.size [.int .i64 0, .int .i64 0, .int .i64 0, .int .i64 0, .int .i64 0, .int .i64 0] 44 ∧ Ext w W5) := ⟨hY.out.2.2, hY.out.1⟩
    clear hB hY
    by_cases k2 : (k : Int) = 2
    · have e2 : ((k : Int) == 2) = true := by simpa using k2
      clear k0 k1 k2
      go_wp2
      go_meet
      case rel => exact ⟨_, _, _, _, _, _, HB2.out.set 1 _, HK.out.1.other (by have := HB.out; omega) _ _, HK.out.2.set (by have := HB.out; omega) _ _⟩
    have e2 : ((k : Int) == 2) = false := by simpa using k2
    by_cases k3 : (k : Int) = 3
    · have e3 : ((k : Int) == 3) = true := by simpa using k3
      clear k0 k1 k2 k3
      go_wp2
      go_meet
      case rel => exact ⟨_, _, _, _, _, _, HB2.out.set 5 _, HK.out.1.other (by have := HB.out; omega) _ _, HK.out.2.set (by have := HB.out; omega) _ _⟩
    have e3 : ((k : Int) == 3) = false := by simpa using k3
    clear k0 k1 k2 k3
    go_wp2
    go_meet
    case rel => exact ⟨_, _, _, _, _, _, HB2.out, HK.out.1, HK.out.2⟩

set_option maxRecDepth 100000 in
set_option maxHeartbeats 4000000 in
theorem drawRule_any (a : Option Addr) (len cap : Nat) (w : World) (hC : Came w a len) :
    Calls Try.prog 23 #[.slice a len cap] w fun e w' => ∃ (a1 : Option Addr) (n1 c1 : Nat) (a2 : Option Addr) (n2 c2 : Nat) (ac da arch num : Int) (ca : Option Addr) (m1 cc : Nat), e = .returned (.tuple #[.agg #[.slice a1 n1 c1, .slice a2 n2 c2, .int .i64 ac, .int .i64 da], .agg #[.int .i64 arch, .int .i64 num, .slice ca m1 cc]]) ∧ RightRule w' ac da a1 n1 a2 n2 ∧ CallR w' arch num ca m1 ∧ Ext w w' := by
  have HC : Hid (Came w a len) := hC
  clear hC
  go_enter Try.func23, Try.ntmps23
  go_wp2_with fail
  refine (new_any a len cap _ (HC.out.below ((Ext.one _ _).alloc _))).mono ?_
  rintro e w1 ⟨rfl, hc1, hb1⟩
  have r1 := ((Blk.new w [.slice none 0 0, .slice none 0 0, .int .i64 0, .int .i64 0] 37).alloc (.cells #[.int .i64 0, .int .i64 0, .slice none 0 0] 29)).ext hb1
  have t1 : Blk w1 (w.heap.size + 1) [.int .i64 0, .int .i64 0, .slice none 0 0] 29 := (Blk.newAt (w.alloc (.cells #[.slice none 0 0, .slice none 0 0, .int .i64 0, .int .i64 0] 37)) [.int .i64 0, .int .i64 0, .slice none 0 0] 29 (w.heap.size + 1) (by simp)).ext hb1
  have HE : Hid (Ext w w1) := ((Ext.one _ _).alloc _).trans hb1
  have hs1 : w.heap.size + 1 + 1 < w1.heap.size := by have := hc1.lt; simpa using this
  have HC1 : Hid (Cur w1 (w.heap.size + 1 + 1) a len cap) := by simpa [Hid] using hc1
  clear hc1 hb1
  go_wp2_with fail
  refine (made_any (w.heap.size + 1 + 1) a len cap _ HC1.out).mono ?_
  rintro e w2 ⟨r, a1, n1, c1, a2, n2, c2, ac, da, hrb, hrs, rfl, hrn, hc2, hg2⟩
  obtain ⟨a1', n1', c1', a2', n2', c2', e0, e1, e2, hn, hc, hf1, hf2⟩ := hrn
  simp only [List.cons.injEq, Value.slice.injEq, Value.int.injEq, true_and, and_true] at e0
  obtain ⟨⟨rfl, rfl, rfl⟩, ⟨rfl, rfl, rfl⟩, hac, hda⟩ := e0
  have x2 := Blk.new w2 [.slice a1 n1 c1, .slice a2 n2 c2, .int .i64 ac, .int .i64 da] 37
  have HI : Hid (ruleB r = true ∧ Small r ∧ r.act = ac ∧ r.data = da ∧ n1 = r.nums.length ∧ n2 = r.conds.length) := ⟨hrb, hrs, hac.symm, hda.symm, e1, e2⟩
  have hs2 : w1.heap.size ≤ w2.heap.size := hg2.size
  obtain ⟨ol, hol⟩ : ∃ ol, ol = Obj.cells #[.slice a1 n1 c1, .slice a2 n2 c2, .int .i64 ac, .int .i64 da] 37 (0, 0) := ⟨_, rfl⟩
  have H2 : Hid (Cur (w2.alloc (.cells #[.slice a1 n1 c1, .slice a2 n2 c2, .int .i64 ac, .int .i64 da] 37)) (w.heap.size + 1 + 1) a len cap ∧ Ext w (w2.alloc (.cells #[.slice a1 n1 c1, .slice a2 n2 c2, .int .i64 ac, .int .i64 da] 37)) ∧ Blk (w2.alloc (.cells #[.slice a1 n1 c1, .slice a2 n2 c2, .int .i64 ac, .int .i64 da] 37)) w.heap.size [.slice none 0 0, .slice none 0 0, .int .i64 0, .int .i64 0] 37 ∧ Blk (w2.alloc (.cells #[.slice a1 n1 c1, .slice a2 n2 c2, .int .i64 ac, .int .i64 da] 37)) (w.heap.size + 1) [.int .i64 0, .int .i64 0, .slice none 0 0] 29 ∧ Blk (w2.alloc (.cells #[.slice a1 n1 c1, .slice a2 n2 c2, .int .i64 ac, .int .i64 da] 37)) w2.heap.size [.slice a1 n1 c1, .slice a2 n2 c2, .int .i64 ac, .int .i64 da] 37 ∧ Nums (w2.alloc (.cells #[.slice a1 n1 c1, .slice a2 n2 c2, .int .i64 ac, .int .i64 da] 37)) a1 r.nums ∧ Conds (w2.alloc (.cells #[.slice a1 n1 c1, .slice a2 n2 c2, .int .i64 ac, .int .i64 da] 37)) a2 r.conds ∧ From w1.heap.size (w2.alloc (.cells #[.slice a1 n1 c1, .slice a2 n2 c2, .int .i64 ac, .int .i64 da] 37)) a1 ∧ From w1.heap.size (w2.alloc (.cells #[.slice a1 n1 c1, .slice a2 n2 c2, .int .i64 ac, .int .i64 da] 37)) a2 ∧ w1.heap.size < (w2.alloc (.cells #[.slice a1 n1 c1, .slice a2 n2 c2, .int .i64 ac, .int .i64 da] 37)).heap.size) :=
    ⟨hc2.alloc _, (ext_newC HE.out (by omega) hg2).alloc _, (r1.grown hg2 (ne_some (by omega))).alloc _, (t1.grown hg2 (ne_some (by omega))).alloc _, x2, hn.kept (fun b o e => (Ext.one w2 _).block b (hf1 b o none e).2) (by simp), hc.kept (fun b o e => (Ext.one w2 _).block b (hf2 b o none e).2) (by simp), hf1.size (by simp), hf2.size (by simp), by simp; omega⟩
  clear hrb hrs hac hda e1 e2 hn hc hf1 hf2 hc2 hg2 r1 t1 HE HC1 x2 hol ol
  go_wp2_with fail
  generalize w2.alloc (.cells #[.slice a1 n1 c1, .slice a2 n2 c2, .int .i64 ac, .int .i64 da] 37) = W5 at *
  refine' wp_region_looset_tail 3 2 (.inl _ :: .inl _ :: .inr (fun v W => ∃ (arch num : Int) (ws : List (Int × Int)) (ca : Option Addr) (m1 cc : Nat), callB arch num ws = true ∧ v = .agg #[.int .i64 arch, .int .i64 num, .slice ca m1 cc] ∧ m1 = ws.length ∧ Wides W ca ws ∧ ∀ b off, ca = some ⟨b, off, none⟩ → w1.heap.size < b) :: []) (fun b W => Cur W (w.heap.size + 1 + 1) a len cap ∧ Ext w W ∧ Blk W w.heap.size [.slice none 0 0, .slice none 0 0, .int .i64 0, .int .i64 0] 37 ∧ Blk W (w.heap.size + 1) [.int .i64 0, .int .i64 0, .slice none 0 0] 29 ∧ Blk W w2.heap.size [.slice a1 n1 c1, .slice a2 n2 c2, .int .i64 ac, .int .i64 da] 37 ∧ Nums W a1 r.nums ∧ Conds W a2 r.conds ∧ From w1.heap.size W a1 ∧ From w1.heap.size W a2 ∧ w1.heap.size < W.heap.size) (fun j W W' => j ≠ 2 → W.grownBy W' none) (by kernel_rfl) (by kernel_rfl) (⟨H2.out.1, H2.out.2.1.drew, H2.out.2.2.1, H2.out.2.2.2.1, H2.out.2.2.2.2.1, H2.out.2.2.2.2.2.1.kept (w' := W5.drew) (fun _ _ _ => rfl) (Nat.le_refl _), H2.out.2.2.2.2.2.2.1.kept (w' := W5.drew) (fun _ _ _ => rfl) (Nat.le_refl _), H2.out.2.2.2.2.2.2.2.1.size (w' := W5.drew) (Nat.le_refl _), H2.out.2.2.2.2.2.2.2.2.1.size (w' := W5.drew) (Nat.le_refl _), H2.out.2.2.2.2.2.2.2.2.2⟩) (by decide) (fun h => by cases h) ?hAx ?hlx ?hMx
  case' hMx => skip
  simp only [List.take_succ_cons, List.take_zero, List.drop_succ_cons, List.drop_zero]
  apply wpLooseT_val rfl rfl (by decide)
  case hs =>
    intro b1 w1 hC hd Q1 hQ1
    dsimp only [bare]
    obtain ⟨q0, q1, q2, q3⟩ := (⟨hC.2.2.2.2.1.cell 0 _ rfl, hC.2.2.2.2.1.cell 1 _ rfl, hC.2.2.2.2.1.cell 2 _ rfl, hC.2.2.2.2.1.cell 3 _ rfl⟩ : _ ∧ _ ∧ _ ∧ _)
    clear hd
    have HCC : Hid _ := hC
    clear hC
    go_wp2
    exact ⟨HCC.out, fun _ => grown_refl _ _⟩
  case ha => rfl
  apply wpLooseT_val rfl rfl (by decide)
  case hs =>
    intro b1 w1 hC hd Q1 hQ1
    dsimp only [bare]
    obtain ⟨q0, q1, q2, q3⟩ := (⟨hC.2.2.2.2.1.cell 0 _ rfl, hC.2.2.2.2.1.cell 1 _ rfl, hC.2.2.2.2.1.cell 2 _ rfl, hC.2.2.2.2.1.cell 3 _ rfl⟩ : _ ∧ _ ∧ _ ∧ _)
    clear hd
    have HCC : Hid _ := hC
    clear hC
    go_wp2
    exact ⟨HCC.out, fun _ => grown_refl _ _⟩
  case ha => rfl
  refine wpLooseT_spec rfl rfl (by decide) ?_ (fun vx_2 => ?_)
  · intro w1 hC hd Q1 hQ1
    dsimp only [bare]
    clear hd
    have HCC : Hid _ := hC
    have HQ : Hid _ := hQ1
    clear hC hQ1
    go_wp2_with fail
    refine (call_any (w.heap.size + 1 + 1) a len cap _ HCC.out.1).mono ?_
    rintro e w7 ⟨arch, num, ws, v, hcb, rfl, ⟨av, cv, rfl, hcv, hw, hf, hz⟩, hc7, hg7⟩
    go_wp2_with fail
    obtain ⟨h1, h2, h3, h4, h5, h6, h6b, h6c, h6d, h7⟩ := HCC.out
    exact HQ.out _ _ ⟨⟨hc7, ext_newC h2 (by omega) hg7, h3.grown hg7 (ne_some (by omega)), h4.grown hg7 (ne_some (by omega)), h5.grown hg7 (ne_some (by omega)), h6.kept (fun b o e => hg7.block b (h6c b o none e).2 (ne_some (by have := (h6c b o none e).1; omega))) hg7.size, h6b.kept (fun b o e => hg7.block b (h6d b o none e).2 (ne_some (by have := (h6d b o none e).1; omega))) hg7.size, h6c.size hg7.size, h6d.size hg7.size, Nat.lt_of_lt_of_le h7 hg7.size⟩, fun h => absurd rfl h, arch, num, ws, av, ws.length, cv, hcb, rfl, rfl, hw, fun b off e => by have := hf b off e; omega⟩
  refine wpLooseT_nil ?_
  intro wx hCx hFx
  obtain ⟨h1, h2, h3, h4, h5, h6, h6b, h6c, h6d, h7⟩ := hCx
  obtain ⟨arch, num, ws, ca, m1, cc, hcb, rfl, hm1, hw, hf⟩ := (hFx 2 _ rfl (by decide) (by simp [Act.put]) : ∃ (arch num : Int) (ws : List (Int × Int)) (ca : Option Addr) (m1 cc : Nat), callB arch num ws = true ∧ vx_2 = .agg #[.int .i64 arch, .int .i64 num, .slice ca m1 cc] ∧ m1 = ws.length ∧ Wides wx ca ws ∧ ∀ b off, ca = some ⟨b, off, none⟩ → w1.heap.size < b)
  have HF : Hid (callB arch num ws = true ∧ m1 = ws.length ∧ RuleN w1.heap.size wx r [.slice a1 n1 c1, .slice a2 n2 c2, .int .i64 r.act, .int .i64 r.data] ∧ Wides wx ca ws ∧ (∀ b off, ca = some ⟨b, off, none⟩ → w1.heap.size < b) ∧ Ext w wx) := ⟨hcb, hm1, ⟨a1, n1, c1, a2, n2, c2, rfl, HI.out.2.2.2.2.1, HI.out.2.2.2.2.2, h6, h6b, h6c, h6d⟩, hw, hf, h2⟩
  obtain ⟨q0, q1, q2, q3, t0, t1, t2⟩ := (⟨h3.cell 0 _ rfl, h3.cell 1 _ rfl, h3.cell 2 _ rfl, h3.cell 3 _ rfl, h4.cell 0 _ rfl, h4.cell 1 _ rfl, h4.cell 2 _ rfl⟩ : _ ∧ _ ∧ _ ∧ _ ∧ _ ∧ _ ∧ _)
  have f1 := h3.free
  have f2 := h4.free
  have hlt := h4.lt
  clear h1 h2 h3 h4 h5 h6 h6b h6c h6d h7 hcb hm1 hw hf hFx H2
  go_wp2
  refine bodyPost_ret (v := .tuple #[.agg #[.slice a1 n1 c1, .slice a2 n2 c2, .int .i64 ac, .int .i64 da], .agg #[.int .i64 arch, .int .i64 num, .slice ca m1 cc]]) (by simp [results, Try.results23, go_sem, *]) rfl ⟨a1, n1, c1, a2, n2, c2, ac, da, arch, num, ca, m1, cc, rfl, ?_, ⟨ws, HF.out.1, HF.out.2.1, ?_⟩, ?_⟩
  · have hr := (((((((HF.out.2.2.1.set (k := w.heap.size) (by omega) 0 (.slice a1 n1 c1)).set (k := w.heap.size) (by omega) 1 (.slice a2 n2 c2)).set (k := w.heap.size) (by omega) 2 (.int .i64 ac)).set (k := w.heap.size) (by omega) 3 (.int .i64 da)).set (k := w.heap.size + 1) (by omega) 0 (.int .i64 arch)).set (k := w.heap.size + 1) (by omega) 1 (.int .i64 num)).set (k := w.heap.size + 1) (by omega) 2 (.slice ca m1 cc))
    obtain ⟨_, _, _, _, _, _, e0, e1, e2, hn, hc, _, _⟩ := hr
    simp only [List.cons.injEq, Value.slice.injEq, and_true] at e0
    obtain ⟨⟨rfl, rfl, rfl⟩, ⟨rfl, rfl, rfl⟩⟩ := e0
    exact ⟨r, HI.out.1, HI.out.2.1, HI.out.2.2.1, HI.out.2.2.2.1, HI.out.2.2.2.2.1, HI.out.2.2.2.2.2, hn, hc⟩
  · exact ((((((HF.out.2.2.2.1.far (fun b off e => by have := HF.out.2.2.2.2.1 b off e; omega) _ _).far (fun b off e => by have := HF.out.2.2.2.2.1 b off e; omega) _ _).far (fun b off e => by have := HF.out.2.2.2.2.1 b off e; omega) _ _).far (fun b off e => by have := HF.out.2.2.2.2.1 b off e; omega) _ _).far (fun b off e => by have := HF.out.2.2.2.2.1 b off e; omega) _ _).far (fun b off e => by have := HF.out.2.2.2.2.1 b off e; omega) _ _).far (fun b off e => by have := HF.out.2.2.2.2.1 b off e; omega) _ _
  · exact ((((((HF.out.2.2.2.2.2.set (by omega) _ _).set (by omega) _ _).set (by omega) _ _).set (by omega) _ _).set (by omega) _ _).set (by omega) _ _).set (by omega) _ _
  case hAx => kernel_rfl
  case hlx => exact ⟨trivial, trivial, fun i hi v W W' ⟨arch, num, ws, ca, m1, cc, e1, e2, e3, e4, e5⟩ hT => ⟨arch, num, ws, ca, m1, cc, e1, e2, e3, e4.below (ext_ofNone (hT hi)) (Nat.le_refl _), e5⟩, trivial⟩

theorem res_cc (fn : Func) (hf : fn.results = #[ResultVar.cell 2 44, ResultVar.cell 3 29]) (Wf : World) (b1 b2 : Nat) (t0 t1 : Value) (ts : List Value) (ag mh ml cm vh vl arch num : Int) (ca : Option Addr) (m1 cc : Nat)
    (h1 : Blk Wf b1 [.int .i64 ag, .int .i64 mh, .int .i64 ml, .int .i64 cm, .int .i64 vh, .int .i64 vl] 44) (h2 : Blk Wf b2 [.int .i64 arch, .int .i64 num, .slice ca m1 cc] 29) :
    (results fn (t0 :: t1 :: .pointer (some ⟨b1, 0, none⟩) :: .pointer (some ⟨b2, 0, none⟩) :: ts).toArray).run Try.prog Wf = .ok (.tuple #[.agg #[.int .i64 ag, .int .i64 mh, .int .i64 ml, .int .i64 cm, .int .i64 vh, .int .i64 vl], .agg #[.int .i64 arch, .int .i64 num, .slice ca m1 cc]]) Wf := by
  obtain ⟨q0, q1, q2, q3, q4, q5⟩ := (⟨h1.cell 0 _ rfl, h1.cell 1 _ rfl, h1.cell 2 _ rfl, h1.cell 3 _ rfl, h1.cell 4 _ rfl, h1.cell 5 _ rfl⟩ : _ ∧ _ ∧ _ ∧ _ ∧ _ ∧ _)
  obtain ⟨t0, t1, t2⟩ := (⟨h2.cell 0 _ rfl, h2.cell 1 _ rfl, h2.cell 2 _ rfl⟩ : _ ∧ _ ∧ _)
  simp [results, go_sem, *]

theorem Blk.drew {W : World} {k : Nat} {l : List Value} {t : TypeId} (h : Blk W k l t) : Blk W.drew k l t := h

theorem Wides.drew {W : World} {a : Option Addr} {ws : List (Int × Int)} (h : Wides W a ws) : Wides W.drew a ws := h

/-- Nine stores into the two results. -/
def ninth (W : World) (k : Nat) (ag mh ml cm vh vl arch num : Int) (cs : Value) : World :=
  ((((((((W.setCell ⟨k, 0, none⟩ (.int .i64 ag)).setCell ⟨k, 1, none⟩ (.int .i64 mh)).setCell ⟨k, 2, none⟩ (.int .i64 ml)).setCell ⟨k, 3, none⟩ (.int .i64 cm)).setCell ⟨k, 4, none⟩ (.int .i64 vh)).setCell ⟨k, 5, none⟩ (.int .i64 vl)).setCell ⟨k + 1, 0, none⟩ (.int .i64 arch)).setCell ⟨k + 1, 1, none⟩ (.int .i64 num)).setCell ⟨k + 1, 2, none⟩ cs

theorem ninth_one {W : World} {k : Nat} {ag mh ml cm vh vl arch num : Int} {cs : Value} (h : Blk W k [.int .i64 0, .int .i64 0, .int .i64 0, .int .i64 0, .int .i64 0, .int .i64 0] 44) : Blk (ninth W k ag mh ml cm vh vl arch num cs) k [.int .i64 ag, .int .i64 mh, .int .i64 ml, .int .i64 cm, .int .i64 vh, .int .i64 vl] 44 :=
  ((((((((h.set 0 _).set 1 _).set 2 _).set 3 _).set 4 _).set 5 _).other (by omega) _ _).other (by omega) _ _).other (by omega) _ _

theorem ninth_two {W : World} {k : Nat} {ag mh ml cm vh vl arch num : Int} {cs : Value} (h : Blk W (k + 1) [.int .i64 0, .int .i64 0, .slice none 0 0] 29) : Blk (ninth W k ag mh ml cm vh vl arch num cs) (k + 1) [.int .i64 arch, .int .i64 num, cs] 29 :=
  (((((((((h.other (by omega) _ _).other (by omega) _ _).other (by omega) _ _).other (by omega) _ _).other (by omega) _ _).other (by omega) _ _).set 0 _).set 1 _).set 2 _)

theorem ninth_wides {W : World} {k : Nat} {ag mh ml cm vh vl arch num : Int} {cs : Value} {a : Option Addr} {ws : List (Int × Int)} (h : Wides W a ws) (hk : ∀ b off, a = some ⟨b, off, none⟩ → k + 1 < b) : Wides (ninth W k ag mh ml cm vh vl arch num cs) a ws :=
  have k0 : ∀ b off, a = some ⟨b, off, none⟩ → k ≠ b := fun b off e => by have := hk b off e; omega
  have k1 : ∀ b off, a = some ⟨b, off, none⟩ → k + 1 ≠ b := fun b off e => by have := hk b off e; omega
  ((((((((h.far k0 _ _).far k0 _ _).far k0 _ _).far k0 _ _).far k0 _ _).far k0 _ _).far k1 _ _).far k1 _ _).far k1 _ _

theorem ninth_ext {w W : World} {k : Nat} {ag mh ml cm vh vl arch num : Int} {cs : Value} (h : Ext w W) (hk : w.heap.size ≤ k) : Ext w (ninth W k ag mh ml cm vh vl arch num cs) :=
  have k1 : w.heap.size ≤ k + 1 := by omega
  ((((((((h.set hk _ _).set hk _ _).set hk _ _).set hk _ _).set hk _ _).set hk _ _).set k1 _ _).set k1 _ _).set k1 _ _

set_option maxRecDepth 100000 in
set_option maxHeartbeats 4000000 in
theorem drawCond_any (a : Option Addr) (len cap : Nat) (w : World) (hC : Came w a len) :
    Calls Try.prog 19 #[.slice a len cap] w fun e w' => ∃ (ag mh ml cm vh vl arch num : Int) (ca : Option Addr) (m1 cc : Nat), e = .returned (.tuple #[.agg #[.int .i64 ag, .int .i64 mh, .int .i64 ml, .int .i64 cm, .int .i64 vh, .int .i64 vl], .agg #[.int .i64 arch, .int .i64 num, .slice ca m1 cc]]) ∧ condB ⟨ag, mh, ml, cm, vh, vl⟩ = true ∧ CallR w' arch num ca m1 ∧ Ext w w' := by
  have HC : Hid (Came w a len) := hC
  clear hC
  go_enter Try.func19, Try.ntmps19
  go_wp2_with fail
  refine (new_any a len cap _ (HC.out.below ((Ext.one _ _).alloc _))).mono ?_
  rintro e w1 ⟨rfl, hc1, hb1⟩
  have r1 := ((Blk.new w [.int .i64 0, .int .i64 0, .int .i64 0, .int .i64 0, .int .i64 0, .int .i64 0] 44).alloc (.cells #[.int .i64 0, .int .i64 0, .slice none 0 0] 29)).ext hb1
  have t1 : Blk w1 (w.heap.size + 1) [.int .i64 0, .int .i64 0, .slice none 0 0] 29 := (Blk.newAt (w.alloc (.cells #[.int .i64 0, .int .i64 0, .int .i64 0, .int .i64 0, .int .i64 0, .int .i64 0] 44)) [.int .i64 0, .int .i64 0, .slice none 0 0] 29 (w.heap.size + 1) (by simp)).ext hb1
  have HE : Hid (Ext w w1) := ((Ext.one _ _).alloc _).trans hb1
  have hs1 : w.heap.size + 1 + 1 < w1.heap.size := by have := hc1.lt; simpa using this
  have HC1 : Hid (Cur w1 (w.heap.size + 1 + 1) a len cap) := by simpa [Hid] using hc1
  clear hc1 hb1
  go_wp2_with fail
  refine (cond_any (w.heap.size + 1 + 1) a len cap _ HC1.out).mono ?_
  rintro e w2 ⟨ag, mh, ml, cm, vh, vl, hcb, rfl, hc2, hg2⟩
  have HCB : Hid (condB ⟨ag, mh, ml, cm, vh, vl⟩ = true) := hcb
  have hs2 : w1.heap.size ≤ w2.heap.size := hg2.size
  have H2 : Hid (Cur (w2.alloc (.cells #[.int .i64 ag, .int .i64 mh, .int .i64 ml, .int .i64 cm, .int .i64 vh, .int .i64 vl] 44)) (w.heap.size + 1 + 1) a len cap ∧ Ext w (w2.alloc (.cells #[.int .i64 ag, .int .i64 mh, .int .i64 ml, .int .i64 cm, .int .i64 vh, .int .i64 vl] 44)) ∧ Blk (w2.alloc (.cells #[.int .i64 ag, .int .i64 mh, .int .i64 ml, .int .i64 cm, .int .i64 vh, .int .i64 vl] 44)) w.heap.size [.int .i64 0, .int .i64 0, .int .i64 0, .int .i64 0, .int .i64 0, .int .i64 0] 44 ∧ Blk (w2.alloc (.cells #[.int .i64 ag, .int .i64 mh, .int .i64 ml, .int .i64 cm, .int .i64 vh, .int .i64 vl] 44)) (w.heap.size + 1) [.int .i64 0, .int .i64 0, .slice none 0 0] 29 ∧ Blk (w2.alloc (.cells #[.int .i64 ag, .int .i64 mh, .int .i64 ml, .int .i64 cm, .int .i64 vh, .int .i64 vl] 44)) w2.heap.size [.int .i64 ag, .int .i64 mh, .int .i64 ml, .int .i64 cm, .int .i64 vh, .int .i64 vl] 44) :=
    ⟨hc2.alloc _, (ext_newC HE.out (by omega) hg2).alloc _, (r1.grown hg2 (ne_some (by omega))).alloc _, (t1.grown hg2 (ne_some (by omega))).alloc _, Blk.new w2 [.int .i64 ag, .int .i64 mh, .int .i64 ml, .int .i64 cm, .int .i64 vh, .int .i64 vl] 44⟩
  clear hcb hc2 hg2 r1 t1 HE HC1
  go_wp2_with fail
  refine (call_any (w.heap.size + 1 + 1) a len cap _ H2.out.1).mono ?_
  rintro e w3 ⟨arch, num, ws, v, hcb, rfl, ⟨ca, cc, rfl, hcv, hw, hf, hz⟩, hc3, hg3⟩
  have h3 : ws.length = 3 := callB_three hcb
  have hf3 : ∀ b off, ca = some ⟨b, off, none⟩ → w2.heap.size < b := fun b off e => by have := hf b off e; simp at this; omega
  have hs3 : w2.heap.size < w3.heap.size := by have := hg3.size; simp at this; omega
  have HI : Hid (callB arch num ws = true ∧ ws.length = 3 ∧ ∀ b off, ca = some ⟨b, off, none⟩ → w2.heap.size < b) := ⟨hcb, h3, hf3⟩
  rw [h3]
  obtain ⟨oc, hoc⟩ : ∃ oc, oc = Obj.cells #[.int .i64 arch, .int .i64 num, .slice ca 3 cc] 29 (0, 0) := ⟨_, rfl⟩
  have H3 : Hid (Cur (w3.alloc (.cells #[.int .i64 arch, .int .i64 num, .slice ca 3 cc] 29)) (w.heap.size + 1 + 1) a len cap ∧ Ext w (w3.alloc (.cells #[.int .i64 arch, .int .i64 num, .slice ca 3 cc] 29)) ∧ Blk (w3.alloc (.cells #[.int .i64 arch, .int .i64 num, .slice ca 3 cc] 29)) w.heap.size [.int .i64 0, .int .i64 0, .int .i64 0, .int .i64 0, .int .i64 0, .int .i64 0] 44 ∧ Blk (w3.alloc (.cells #[.int .i64 arch, .int .i64 num, .slice ca 3 cc] 29)) (w.heap.size + 1) [.int .i64 0, .int .i64 0, .slice none 0 0] 29 ∧ Blk (w3.alloc (.cells #[.int .i64 arch, .int .i64 num, .slice ca 3 cc] 29)) w2.heap.size [.int .i64 ag, .int .i64 mh, .int .i64 ml, .int .i64 cm, .int .i64 vh, .int .i64 vl] 44 ∧ Blk (w3.alloc (.cells #[.int .i64 arch, .int .i64 num, .slice ca 3 cc] 29)) w3.heap.size [.int .i64 arch, .int .i64 num, .slice ca 3 cc] 29 ∧ Wides (w3.alloc (.cells #[.int .i64 arch, .int .i64 num, .slice ca 3 cc] 29)) ca ws) :=
    ⟨hc3.alloc _, (ext_newC H2.out.2.1 (by omega) hg3).alloc _, (H2.out.2.2.1.grown hg3 (ne_some (by omega))).alloc _, (H2.out.2.2.2.1.grown hg3 (ne_some (by omega))).alloc _, (H2.out.2.2.2.2.grown hg3 (ne_some (by omega))).alloc _, Blk.new w3 _ 29, hw.below (Ext.one _ _) (Nat.le_refl _)⟩
  clear hcb hcv hw hf hz hc3 hg3 h3 hf3 H2 hoc oc
  go_wp2_with fail
  generalize w3.alloc (.cells #[.int .i64 arch, .int .i64 num, .slice ca 3 cc] 29) = W5 at *
  refine (once_any 3 (w.heap.size + 1 + 1) a len cap _ H3.out.1 (by omega)).mono ?_
  rintro e w6 ⟨tb, rfl, hc6, hg6⟩
  have H6 : Hid (Ext w w6 ∧ Blk w6 w.heap.size [.int .i64 0, .int .i64 0, .int .i64 0, .int .i64 0, .int .i64 0, .int .i64 0] 44 ∧ Blk w6 (w.heap.size + 1) [.int .i64 0, .int .i64 0, .slice none 0 0] 29 ∧ Blk w6 w2.heap.size [.int .i64 ag, .int .i64 mh, .int .i64 ml, .int .i64 cm, .int .i64 vh, .int .i64 vl] 44 ∧ Blk w6 w3.heap.size [.int .i64 arch, .int .i64 num, .slice ca 3 cc] 29 ∧ Wides w6 ca ws) := by
    obtain ⟨h1, h2, h3, h4, h5, h6, h7⟩ := H3.out
    exact ⟨ext_newC h2 (by omega) hg6, h3.grown hg6 (ne_some (by omega)), h4.grown hg6 (ne_some (by omega)), h5.grown hg6 (ne_some (by omega)), h6.grown hg6 (ne_some (by omega)), wides_keptC h7 hg6 (fun b off e => ne_some (by have := HI.out.2.2 b off e; omega))⟩
  clear hc6 hg6 H3
  go_upto_if 14 with fail
  go_cut [] from 15 to 24 (fun W => ∃ xh xl : Int, wideB (xh, xl) = true ∧ Ext w W ∧ Blk W w.heap.size [.int .i64 0, .int .i64 0, .int .i64 0, .int .i64 0, .int .i64 0, .int .i64 0] 44 ∧ Blk W (w.heap.size + 1) [.int .i64 0, .int .i64 0, .slice none 0 0] 29 ∧ Blk W w2.heap.size [.int .i64 ag, .int .i64 mh, .int .i64 ml, .int .i64 cm, .int .i64 xh, .int .i64 xl] 44 ∧ Blk W w3.heap.size [.int .i64 arch, .int .i64 num, .slice ca 3 cc] 29 ∧ Wides W ca ws)
  case first =>
    have hv : wideB (vh, vl) = true ∧ wideB (mh, ml) = true := by
      have := HCB.out
      simp only [condB, Bool.and_eq_true] at this
      exact ⟨this.2, this.1.2⟩
    cases tb
    · go_wp2
      go_meet
      case rel =>
        obtain ⟨h1, h2, h3, h4, h5, h6⟩ := H6.out
        exact ⟨vh, vl, hv.1, h1, h2, h3, h4, h5, h6⟩
    · obtain ⟨a0, a2, m1, m6⟩ := condB_parts HCB.out
      simp only at a0 a2 m1 m6
      clear m1 m6
      obtain ⟨k, rfl⟩ : ∃ k : Nat, ag = k := ⟨ag.toNat, by omega⟩
      obtain ⟨p, hp⟩ : ∃ p, p = ws.getD k (0, 0) := ⟨_, rfl⟩
      obtain ⟨x, y⟩ := p
      have hk3 : k < ws.length := by have := HI.out.2.1; omega
      obtain ⟨b, off, hca, p2⟩ := H6.out.2.2.2.2.2.pair (k := k) hk3 hp
      have hxy : wideB (x, y) = true := by
        have h := HI.out.1
        simp only [callB, Bool.and_eq_true, List.all_eq_true] at h
        rw [hp, List.getD_eq_getElem?_getD, List.getElem?_eq_getElem hk3]
        exact h.2 _ (List.getElem_mem hk3)
      obtain ⟨z, hz⟩ : ∃ z, z = andW (x, y) (mh, ml) := ⟨_, rfl⟩
      have HA : Hid (∀ W : World, Calls Try.prog 20 #[.agg #[.int .i64 x, .int .i64 y], .agg #[.int .i64 mh, .int .i64 ml]] W fun e w' => e = .returned (.agg #[.int .i64 z.1, .int .i64 z.2]) ∧ Below W.heap.size W w') := fun W => by rw [hz]; exact sAnd_any x y mh ml W
      have HZ : Hid (wideB z = true) := by unfold Hid; rw [hz]; exact andW_wide hxy hv.2
      have bk : (k : Int) < 3 := by omega
      clear hz hxy hv hk3 hp a0 a2
      obtain ⟨z1, z2⟩ := z
      subst hca
      go_wp2_with fail
      refine' wp_region_loose_tail 10 (.inl _ :: .inl _ :: .inl _ :: .inl _ :: .inl _ :: .inl _ :: .inl _ :: .inl _ :: .inl _ :: .inl _ :: []) (fun w' => Blk w' w2.heap.size [.int .i64 (k : Int), .int .i64 mh, .int .i64 ml, .int .i64 cm, .int .i64 vh, .int .i64 vl] 44 ∧ Blk w' w3.heap.size [.int .i64 arch, .int .i64 num, .slice (some ⟨b, off, none⟩) 3 cc] 29 ∧ Pair w' b (off + k * 2) x y) (by kernel_rfl) (by kernel_rfl) (⟨H6.out.2.2.2.1, H6.out.2.2.2.2.1, p2⟩) (fun _ _ h hE => ⟨h.1.ext hE, h.2.1.ext hE, h.2.2.step hE⟩) ?hAa ?hla ?hMa
      case' hMa => skip
      simp only [List.take_succ_cons, List.take_zero, List.drop_succ_cons, List.drop_zero]
      apply wpLoose_val rfl rfl
      case hs =>
        intro w1 hC hd Q1 hQ1
        obtain ⟨hE, hS⟩ := hC
        dsimp only [bare]
        obtain ⟨q1, q2, q3, q4, ⟨_, q5, q6⟩⟩ := (⟨hS.1.cell 0 _ rfl, hS.1.cell 1 _ rfl, hS.1.cell 2 _ rfl, hS.2.1.cell 2 _ rfl, hS.2.2⟩ : _ ∧ _ ∧ _ ∧ _ ∧ _)
        clear hd hE
        try clear hS
        go_wp2
        exact Ext.refl _
      case ha => rfl
      apply wpLoose_val rfl rfl
      case hs =>
        intro w1 hC hd Q1 hQ1
        obtain ⟨hE, hS⟩ := hC
        dsimp only [bare]
        obtain ⟨q1, q2, q3, q4, ⟨_, q5, q6⟩⟩ := (⟨hS.1.cell 0 _ rfl, hS.1.cell 1 _ rfl, hS.1.cell 2 _ rfl, hS.2.1.cell 2 _ rfl, hS.2.2⟩ : _ ∧ _ ∧ _ ∧ _ ∧ _)
        clear hd hE
        try clear hS
        go_wp2
        exact Ext.refl _
      case ha => rfl
      apply wpLoose_val rfl rfl
      case hs =>
        intro w1 hC hd Q1 hQ1
        obtain ⟨hE, hS⟩ := hC
        dsimp only [bare]
        obtain ⟨q1, q2, q3, q4, ⟨_, q5, q6⟩⟩ := (⟨hS.1.cell 0 _ rfl, hS.1.cell 1 _ rfl, hS.1.cell 2 _ rfl, hS.2.1.cell 2 _ rfl, hS.2.2⟩ : _ ∧ _ ∧ _ ∧ _ ∧ _)
        clear hd hE
        try clear hS
        go_wp2
        exact Ext.refl _
      case ha => rfl
      apply wpLoose_val rfl rfl
      case hs =>
        intro w1 hC hd Q1 hQ1
        obtain ⟨hE, hS⟩ := hC
        dsimp only [bare]
        obtain ⟨q1, q2, q3, q4, ⟨_, q5, q6⟩⟩ := (⟨hS.1.cell 0 _ rfl, hS.1.cell 1 _ rfl, hS.1.cell 2 _ rfl, hS.2.1.cell 2 _ rfl, hS.2.2⟩ : _ ∧ _ ∧ _ ∧ _ ∧ _)
        clear hd hE
        try clear hS
        go_wp2
        exact Ext.refl _
      case ha => rfl
      apply wpLoose_val rfl rfl
      case hs =>
        intro w1 hC hd Q1 hQ1
        obtain ⟨hE, hS⟩ := hC
        dsimp only [bare]
        obtain ⟨q1, q2, q3, q4, ⟨_, q5, q6⟩⟩ := (⟨hS.1.cell 0 _ rfl, hS.1.cell 1 _ rfl, hS.1.cell 2 _ rfl, hS.2.1.cell 2 _ rfl, hS.2.2⟩ : _ ∧ _ ∧ _ ∧ _ ∧ _)
        clear hd hE
        try clear hS
        go_wp2
        exact Ext.refl _
      case ha => rfl
      apply wpLoose_val rfl rfl
      case hs =>
        intro w1 hC hd Q1 hQ1
        obtain ⟨hE, hS⟩ := hC
        dsimp only [bare]
        obtain ⟨q1, q2, q3, q4, ⟨_, q5, q6⟩⟩ := (⟨hS.1.cell 0 _ rfl, hS.1.cell 1 _ rfl, hS.1.cell 2 _ rfl, hS.2.1.cell 2 _ rfl, hS.2.2⟩ : _ ∧ _ ∧ _ ∧ _ ∧ _)
        clear hd hE
        try clear hS
        go_wp2
        exact Ext.refl _
      case ha => rfl
      apply wpLoose_val rfl rfl
      case hs =>
        intro w1 hC hd Q1 hQ1
        obtain ⟨hE, hS⟩ := hC
        dsimp only [bare]
        obtain ⟨q1, q2, q3, q4, ⟨_, q5, q6⟩⟩ := (⟨hS.1.cell 0 _ rfl, hS.1.cell 1 _ rfl, hS.1.cell 2 _ rfl, hS.2.1.cell 2 _ rfl, hS.2.2⟩ : _ ∧ _ ∧ _ ∧ _ ∧ _)
        clear hd hE
        try clear hS
        go_wp2
        exact Ext.refl _
      case ha => rfl
      apply wpLoose_val rfl rfl
      case hs =>
        intro w1 hC hd Q1 hQ1
        obtain ⟨hE, hS⟩ := hC
        dsimp only [bare]
        obtain ⟨q1, q2, q3, q4, ⟨_, q5, q6⟩⟩ := (⟨hS.1.cell 0 _ rfl, hS.1.cell 1 _ rfl, hS.1.cell 2 _ rfl, hS.2.1.cell 2 _ rfl, hS.2.2⟩ : _ ∧ _ ∧ _ ∧ _ ∧ _)
        clear hd hE
        try clear hS
        go_wp2
        exact Ext.refl _
      case ha => rfl
      apply wpLoose_val rfl rfl
      case hs =>
        intro w1 hC hd Q1 hQ1
        obtain ⟨hE, hS⟩ := hC
        dsimp only [bare]
        clear hd
        go_wp2_with fail
        refine (HA.out _).mono ?_
        rintro e w2 ⟨rfl, hb⟩
        go_wp2_with fail
        exact hb
      case ha => rfl
      apply wpLoose_val rfl rfl
      case hs =>
        intro w1 hC hd Q1 hQ1
        obtain ⟨hE, hS⟩ := hC
        dsimp only [bare]
        obtain ⟨q1, q2, q3, q4, ⟨_, q5, q6⟩⟩ := (⟨hS.1.cell 0 _ rfl, hS.1.cell 1 _ rfl, hS.1.cell 2 _ rfl, hS.2.1.cell 2 _ rfl, hS.2.2⟩ : _ ∧ _ ∧ _ ∧ _ ∧ _)
        clear hd hE
        try clear hS
        go_wp2
        exact Ext.refl _
      case ha => rfl
      refine wpLoose_nil ?_
      intro wa hEa hSa hFa
      have HN : Hid (Blk wa w2.heap.size [.int .i64 (k : Int), .int .i64 mh, .int .i64 ml, .int .i64 cm, .int .i64 vh, .int .i64 vl] 44) := hSa.1
      obtain ⟨q0, q1, q2, q3, q4, q5⟩ := (⟨hSa.1.cell 0 _ rfl, hSa.1.cell 1 _ rfl, hSa.1.cell 2 _ rfl, hSa.1.cell 3 _ rfl, hSa.1.cell 4 _ rfl, hSa.1.cell 5 _ rfl⟩ : _ ∧ _ ∧ _ ∧ _ ∧ _ ∧ _)
      have fX := hSa.1.free
      have HEa : Hid (Ext w6 wa) := (Ext.refl w6).drew.trans hEa
      clear hEa hSa hFa p2
      try simp only [Act.put]
      go_wp2
      go_meet
      case rel =>
        obtain ⟨h1, h2, h3, h4, h5, h6⟩ := H6.out
        exact ⟨z1, z2, HZ.out, ((h1.trans HEa.out).set (by omega) _ _).set (by omega) _ _, ((h2.ext HEa.out).other (by omega) _ _).other (by omega) _ _, ((h3.ext HEa.out).other (by omega) _ _).other (by omega) _ _, (HN.out.set 4 _).set 5 _, ((h5.ext HEa.out).other (by omega) _ _).other (by omega) _ _, ((h6.below HEa.out (Nat.le_refl _)).far (fun b off e => by have := HI.out.2.2 b off e; omega) _ _).far (fun b off e => by have := HI.out.2.2 b off e; omega) _ _⟩
      case hAa => kernel_rfl
      case hla => exact ⟨trivial, trivial, trivial, trivial, trivial, trivial, trivial, trivial, trivial, trivial, trivial⟩
  case rest =>
    obtain ⟨xh, xl, hx, hE, h2, h3, h4, h5, h6⟩ := hcut
    have HF : Hid (wideB (xh, xl) = true ∧ Ext w wc ∧ Wides wc ca ws) := ⟨hx, hE, h6⟩
    have HR : Hid (Blk wc w.heap.size [.int .i64 0, .int .i64 0, .int .i64 0, .int .i64 0, .int .i64 0, .int .i64 0] 44 ∧ Blk wc (w.heap.size + 1) [.int .i64 0, .int .i64 0, .slice none 0 0] 29) := ⟨h2, h3⟩
    obtain ⟨q0, q1, q2, q3, q4, q5⟩ := (⟨h2.cell 0 _ rfl, h2.cell 1 _ rfl, h2.cell 2 _ rfl, h2.cell 3 _ rfl, h2.cell 4 _ rfl, h2.cell 5 _ rfl⟩ : _ ∧ _ ∧ _ ∧ _ ∧ _ ∧ _)
    obtain ⟨s0, s1, s2, s3, s4, s5⟩ := (⟨h4.cell 0 _ rfl, h4.cell 1 _ rfl, h4.cell 2 _ rfl, h4.cell 3 _ rfl, h4.cell 4 _ rfl, h4.cell 5 _ rfl⟩ : _ ∧ _ ∧ _ ∧ _ ∧ _ ∧ _)
    obtain ⟨t0, t1, t2, u0, u1, u2⟩ := (⟨h3.cell 0 _ rfl, h3.cell 1 _ rfl, h3.cell 2 _ rfl, h5.cell 0 _ rfl, h5.cell 1 _ rfl, h5.cell 2 _ rfl⟩ : _ ∧ _ ∧ _ ∧ _ ∧ _ ∧ _)
    have f1 := h2.free
    have f2 := h3.free
    have l1 := h2.lt
    have l2 := h3.lt
    clear hx hE h2 h3 h4 h5 h6 H6
    go_wp2_with fail
    go_region
    go_wp2
    refine bodyPost_ret (res_cc Try.f19 Try.results19 (ninth wc w.heap.size ag mh ml cm xh xl arch num (.slice ca 3 cc)).drew _ _ _ _ _ ag mh ml cm xh xl arch num ca 3 cc (ninth_one HR.out.1).drew (ninth_two HR.out.2).drew) rfl ⟨ag, mh, ml, cm, xh, xl, arch, num, ca, 3, cc, rfl, ?_, ⟨ws, HI.out.1, HI.out.2.1.symm, ?_⟩, ?_⟩
    · have := HCB.out
      simp only [condB, Bool.and_eq_true] at this ⊢
      exact ⟨this.1, HF.out.1⟩
    · exact (ninth_wides (k := w.heap.size) (W := wc) (ag := ag) (mh := mh) (ml := ml) (cm := cm) (vh := xh) (vl := xl) (arch := arch) (num := num) (cs := .slice ca 3 cc) HF.out.2.2 (fun b off e => by have := HI.out.2.2 b off e; omega)).drew
    · exact (ninth_ext (k := w.heap.size) (W := wc) (ag := ag) (mh := mh) (ml := ml) (cm := cm) (vh := xh) (vl := xl) (arch := arch) (num := num) (cs := .slice ca 3 cc) HF.out.2.1 (Nat.le_refl _)).drew

set_option maxRecDepth 100000 in
set_option maxHeartbeats 4000000 in
theorem drawCondHolds_any (a : Option Addr) (len cap : Nat) (w : World) (hC : Came w a len) :
    Calls Try.prog 24 #[.slice a len cap] w fun e w' => ∃ (ag mh ml cm vh vl arch num : Int) (ca : Option Addr) (m1 cc : Nat), e = .returned (.tuple #[.agg #[.int .i64 ag, .int .i64 mh, .int .i64 ml, .int .i64 cm, .int .i64 vh, .int .i64 vl], .agg #[.int .i64 arch, .int .i64 num, .slice ca m1 cc]]) ∧ CallA w' ca m1 ∧ Ext w w' := by
  have HC : Hid (Came w a len) := hC
  clear hC
  go_enter Try.func24, Try.ntmps24
  go_wp2_with fail
  refine (new_any a len cap _ (HC.out.below ((Ext.one _ _).alloc _))).mono ?_
  rintro e w1 ⟨rfl, hc1, hb1⟩
  have r1 := ((Blk.new w [.int .i64 0, .int .i64 0, .int .i64 0, .int .i64 0, .int .i64 0, .int .i64 0] 44).alloc (.cells #[.int .i64 0, .int .i64 0, .slice none 0 0] 29)).ext hb1
  have t1 : Blk w1 (w.heap.size + 1) [.int .i64 0, .int .i64 0, .slice none 0 0] 29 := (Blk.newAt (w.alloc (.cells #[.int .i64 0, .int .i64 0, .int .i64 0, .int .i64 0, .int .i64 0, .int .i64 0] 44)) [.int .i64 0, .int .i64 0, .slice none 0 0] 29 (w.heap.size + 1) (by simp)).ext hb1
  have HE : Hid (Ext w w1) := ((Ext.one _ _).alloc _).trans hb1
  have hs1 : w.heap.size + 1 + 1 < w1.heap.size := by have := hc1.lt; simpa using this
  have HC1 : Hid (Cur w1 (w.heap.size + 1 + 1) a len cap) := by simpa [Hid] using hc1
  clear hc1 hb1
  go_wp2_with fail
  refine (any_any (w.heap.size + 1 + 1) a len cap _ HC1.out).mono ?_
  rintro e w2 ⟨arch, num, ws, v, hl3, rfl, ⟨ca, cc, rfl, hcv, hw, hf, hz⟩, hc2, hg2⟩
  obtain ⟨m1, hm1⟩ : ∃ m1, m1 = ws.length := ⟨_, rfl⟩
  rw [← hm1]
  have hs2 : w1.heap.size ≤ w2.heap.size := hg2.size
  have HI : Hid (ws.length ≤ 3 ∧ m1 = ws.length ∧ ∀ b off, ca = some ⟨b, off, none⟩ → w1.heap.size ≤ b) := ⟨hl3, hm1, hf⟩
  have H2 : Hid (Cur (w2.alloc (.cells #[.int .i64 arch, .int .i64 num, .slice ca m1 cc] 29)) (w.heap.size + 1 + 1) a len cap ∧ Ext w (w2.alloc (.cells #[.int .i64 arch, .int .i64 num, .slice ca m1 cc] 29)) ∧ Blk (w2.alloc (.cells #[.int .i64 arch, .int .i64 num, .slice ca m1 cc] 29)) w.heap.size [.int .i64 0, .int .i64 0, .int .i64 0, .int .i64 0, .int .i64 0, .int .i64 0] 44 ∧ Blk (w2.alloc (.cells #[.int .i64 arch, .int .i64 num, .slice ca m1 cc] 29)) (w.heap.size + 1) [.int .i64 0, .int .i64 0, .slice none 0 0] 29 ∧ Blk (w2.alloc (.cells #[.int .i64 arch, .int .i64 num, .slice ca m1 cc] 29)) w2.heap.size [.int .i64 arch, .int .i64 num, .slice ca m1 cc] 29 ∧ Wides (w2.alloc (.cells #[.int .i64 arch, .int .i64 num, .slice ca m1 cc] 29)) ca ws) :=
    ⟨hc2.alloc _, (ext_newC HE.out (by omega) hg2).alloc _, (r1.grown hg2 (ne_some (by omega))).alloc _, (t1.grown hg2 (ne_some (by omega))).alloc _, Blk.new w2 [.int .i64 arch, .int .i64 num, .slice ca m1 cc] 29, hw.below (Ext.one _ _) (Nat.le_refl _)⟩
  have HJ : Hid (0 < ws.length → ∀ b off, ca = some ⟨b, off, none⟩ → b < w2.heap.size) := fun hp b off e => by
    obtain ⟨b', off', e', hlt, _⟩ := hw hp
    rw [e] at e'
    injection e' with e'
    injection e' with e1
    omega
  clear hl3 hcv hw hf hz hc2 hg2 r1 t1 HE HC1 hm1
  go_wp2_with fail
  refine (drawCondOk_any a len cap _ (HC.out.below H2.out.2.1)).mono ?_
  rintro e w3 ⟨ag, mh, ml, cm, vh, vl, rfl, x3⟩
  have hs3 : w2.heap.size < w3.heap.size := by have := x3.size; simp at this; omega
  have HX : Hid (0 < ws.length → ∀ b off, ca = some ⟨b, off, none⟩ → w3.heap.size ≠ b) := fun hp b off e => by have := HJ.out hp b off e; omega
  have H3 : Hid (Cur (w3.alloc (.cells #[.int .i64 ag, .int .i64 mh, .int .i64 ml, .int .i64 cm, .int .i64 vh, .int .i64 vl] 44)) (w.heap.size + 1 + 1) a len cap ∧ Ext w (w3.alloc (.cells #[.int .i64 ag, .int .i64 mh, .int .i64 ml, .int .i64 cm, .int .i64 vh, .int .i64 vl] 44)) ∧ Blk (w3.alloc (.cells #[.int .i64 ag, .int .i64 mh, .int .i64 ml, .int .i64 cm, .int .i64 vh, .int .i64 vl] 44)) w.heap.size [.int .i64 0, .int .i64 0, .int .i64 0, .int .i64 0, .int .i64 0, .int .i64 0] 44 ∧ Blk (w3.alloc (.cells #[.int .i64 ag, .int .i64 mh, .int .i64 ml, .int .i64 cm, .int .i64 vh, .int .i64 vl] 44)) (w.heap.size + 1) [.int .i64 0, .int .i64 0, .slice none 0 0] 29 ∧ Blk (w3.alloc (.cells #[.int .i64 ag, .int .i64 mh, .int .i64 ml, .int .i64 cm, .int .i64 vh, .int .i64 vl] 44)) w2.heap.size [.int .i64 arch, .int .i64 num, .slice ca m1 cc] 29 ∧ Blk (w3.alloc (.cells #[.int .i64 ag, .int .i64 mh, .int .i64 ml, .int .i64 cm, .int .i64 vh, .int .i64 vl] 44)) w3.heap.size [.int .i64 ag, .int .i64 mh, .int .i64 ml, .int .i64 cm, .int .i64 vh, .int .i64 vl] 44 ∧ Wides (w3.alloc (.cells #[.int .i64 ag, .int .i64 mh, .int .i64 ml, .int .i64 cm, .int .i64 vh, .int .i64 vl] 44)) ca ws) := by
    obtain ⟨h1, h2, h3, h4, h5, h6⟩ := H2.out
    exact ⟨(h1.kept (row := none) ⟨x3.os, x3.tape, x3.output, x3.size, fun k hk _ => x3.block k hk⟩ (by simp) (fun _ _ _ _ => by simp)).alloc _, (h2.trans x3).alloc _, (h3.ext x3).alloc _, (h4.ext x3).alloc _, (h5.ext x3).alloc _, Blk.new w3 [.int .i64 ag, .int .i64 mh, .int .i64 ml, .int .i64 cm, .int .i64 vh, .int .i64 vl] 44, (h6.below x3 (Nat.le_refl _)).below (Ext.one _ _) (Nat.le_refl _)⟩
  clear x3 H2
  go_upto_region 4 with fail
  generalize w3.alloc (.cells #[.int .i64 ag, .int .i64 mh, .int .i64 ml, .int .i64 cm, .int .i64 vh, .int .i64 vl] 44) = W5 at *
  go_cut [28] from 13 to 27 (fun s W => ∃ tb : Bool, s = .bool tb ∧ Hid (tb = true → condB ⟨ag, mh, ml, cm, vh, vl⟩ = true ∧ callB arch num ws = true) ∧ Ext w W ∧ Blk W w.heap.size [.int .i64 0, .int .i64 0, .int .i64 0, .int .i64 0, .int .i64 0, .int .i64 0] 44 ∧ Blk W (w.heap.size + 1) [.int .i64 0, .int .i64 0, .slice none 0 0] 29 ∧ Blk W w2.heap.size [.int .i64 arch, .int .i64 num, .slice ca m1 cc] 29 ∧ Blk W w3.heap.size [.int .i64 ag, .int .i64 mh, .int .i64 ml, .int .i64 cm, .int .i64 vh, .int .i64 vl] 44 ∧ Wides W ca ws)
  case first =>
    obtain ⟨u0, u1, u2⟩ := (⟨H3.out.2.2.2.2.1.cell 0 _ rfl, H3.out.2.2.2.2.1.cell 1 _ rfl, H3.out.2.2.2.2.1.cell 2 _ rfl⟩ : _ ∧ _ ∧ _)
    by_cases hm : 0 < m1
    case neg =>
      have em : m1 = 0 := by omega
      clear hm
      subst em
      go_wp2
      go_meet
      case rel =>
        obtain ⟨h1, h2, h3, h4, h5, h6, h7⟩ := H3.out
        exact ⟨false, rfl, (by unfold Hid; intro h; cases h), h2, h3, h4, h5, h6, h7⟩
    go_wp2_with fail
    refine (once_any 3 (w.heap.size + 1 + 1) a len cap _ H3.out.1 (by omega)).mono ?_
    rintro e w6 ⟨tb, rfl, hc6, hg6⟩
    have H6 : Hid (Ext w w6 ∧ Blk w6 w.heap.size [.int .i64 0, .int .i64 0, .int .i64 0, .int .i64 0, .int .i64 0, .int .i64 0] 44 ∧ Blk w6 (w.heap.size + 1) [.int .i64 0, .int .i64 0, .slice none 0 0] 29 ∧ Blk w6 w2.heap.size [.int .i64 arch, .int .i64 num, .slice ca m1 cc] 29 ∧ Blk w6 w3.heap.size [.int .i64 ag, .int .i64 mh, .int .i64 ml, .int .i64 cm, .int .i64 vh, .int .i64 vl] 44 ∧ Wides w6 ca ws) := by
      obtain ⟨h1, h2, h3, h4, h5, h6, h7⟩ := H3.out
      exact ⟨ext_newC h2 (by omega) hg6, h3.grown hg6 (ne_some (by omega)), h4.grown hg6 (ne_some (by omega)), h5.grown hg6 (ne_some (by omega)), h6.grown hg6 (ne_some (by omega)), wides_keptC h7 hg6 (fun b off e => ne_some (by have := HI.out.2.2 b off e; omega))⟩
    obtain ⟨s0, s1, s2, s3, s4, s5⟩ := (⟨H6.out.2.2.2.2.1.cell 0 _ rfl, H6.out.2.2.2.2.1.cell 1 _ rfl, H6.out.2.2.2.2.1.cell 2 _ rfl, H6.out.2.2.2.2.1.cell 3 _ rfl, H6.out.2.2.2.2.1.cell 4 _ rfl, H6.out.2.2.2.2.1.cell 5 _ rfl⟩ : _ ∧ _ ∧ _ ∧ _ ∧ _ ∧ _)
    clear hc6 hg6 H3 u0 u1 u2
    cases tb
    · go_wp2
      go_meet
      case rel =>
        obtain ⟨h2, h3, h4, h5, h6, h7⟩ := H6.out
        exact ⟨false, rfl, (by unfold Hid; intro h; cases h), h2, h3, h4, h5, h6, h7⟩
    go_wp2_with fail
    refine (sCondOk_any ag mh ml cm vh vl _).mono ?_
    rintro e w7 ⟨rfl, x7⟩
    have H7 : Hid (Ext w w7 ∧ Blk w7 w.heap.size [.int .i64 0, .int .i64 0, .int .i64 0, .int .i64 0, .int .i64 0, .int .i64 0] 44 ∧ Blk w7 (w.heap.size + 1) [.int .i64 0, .int .i64 0, .slice none 0 0] 29 ∧ Blk w7 w2.heap.size [.int .i64 arch, .int .i64 num, .slice ca m1 cc] 29 ∧ Blk w7 w3.heap.size [.int .i64 ag, .int .i64 mh, .int .i64 ml, .int .i64 cm, .int .i64 vh, .int .i64 vl] 44 ∧ Wides w7 ca ws) := by
      obtain ⟨h2, h3, h4, h5, h6, h7⟩ := H6.out
      exact ⟨h2.trans x7, h3.ext x7, h4.ext x7, h5.ext x7, h6.ext x7, h7.below x7 (Nat.le_refl _)⟩
    obtain ⟨u0, u1, u2⟩ := (⟨H7.out.2.2.2.1.cell 0 _ rfl, H7.out.2.2.2.1.cell 1 _ rfl, H7.out.2.2.2.1.cell 2 _ rfl⟩ : _ ∧ _ ∧ _)
    clear x7 H6 s0 s1 s2 s3 s4 s5
    obtain ⟨kb, hkb⟩ : ∃ kb, kb = condB ⟨ag, mh, ml, cm, vh, vl⟩ := ⟨_, rfl⟩
    rw [← hkb]
    have HKB : Hid (kb = condB ⟨ag, mh, ml, cm, vh, vl⟩) := hkb
    clear hkb
    cases kb
    · go_wp2
      go_meet
      case rel =>
        obtain ⟨h2, h3, h4, h5, h6, h7⟩ := H7.out
        exact ⟨false, rfl, (by unfold Hid; intro h; cases h), h2, h3, h4, h5, h6, h7⟩
    go_wp2_with fail
    have HM : Hid (m1 = ws.length) := HI.out.2.1
    refine (Calls.mono (R := fun e w' => e = .returned (.bool (callB arch num ws)) ∧ Ext w7 w') ?_ ?_)
    · rw [HM.out]
      exact sCall_any arch num ca cc ws _ (by have := HI.out.1; omega) H7.out.2.2.2.2.2
    rintro e w8 ⟨rfl, x8⟩
    have H8 : Hid (Ext w w8 ∧ Blk w8 w.heap.size [.int .i64 0, .int .i64 0, .int .i64 0, .int .i64 0, .int .i64 0, .int .i64 0] 44 ∧ Blk w8 (w.heap.size + 1) [.int .i64 0, .int .i64 0, .slice none 0 0] 29 ∧ Blk w8 w2.heap.size [.int .i64 arch, .int .i64 num, .slice ca m1 cc] 29 ∧ Blk w8 w3.heap.size [.int .i64 ag, .int .i64 mh, .int .i64 ml, .int .i64 cm, .int .i64 vh, .int .i64 vl] 44 ∧ Wides w8 ca ws) := by
      obtain ⟨h2, h3, h4, h5, h6, h7⟩ := H7.out
      exact ⟨h2.trans x8, h3.ext x8, h4.ext x8, h5.ext x8, h6.ext x8, h7.below x8 (Nat.le_refl _)⟩
    clear x8 H7 u0 u1 u2
    obtain ⟨cb, hcb⟩ : ∃ cb, cb = callB arch num ws := ⟨_, rfl⟩
    rw [← hcb]
    have HCB : Hid (cb = callB arch num ws) := hcb
    clear hcb
    go_wp2
    go_meet
    case rel =>
      obtain ⟨h2, h3, h4, h5, h6, h7⟩ := H8.out
      exact ⟨cb, rfl, (by unfold Hid; intro h; exact ⟨HKB.out.symm, by rw [← HCB.out]; exact h⟩), h2, h3, h4, h5, h6, h7⟩
  case rest =>
    obtain ⟨tb, rfl, HT, h2, h3, h4, h5, h6, h7⟩ := hcut
    have H6 : Hid (Ext w wc ∧ Blk wc w.heap.size [.int .i64 0, .int .i64 0, .int .i64 0, .int .i64 0, .int .i64 0, .int .i64 0] 44 ∧ Blk wc (w.heap.size + 1) [.int .i64 0, .int .i64 0, .slice none 0 0] 29 ∧ Blk wc w2.heap.size [.int .i64 arch, .int .i64 num, .slice ca m1 cc] 29 ∧ Blk wc w3.heap.size [.int .i64 ag, .int .i64 mh, .int .i64 ml, .int .i64 cm, .int .i64 vh, .int .i64 vl] 44 ∧ Wides wc ca ws) := ⟨h2, h3, h4, h5, h6, h7⟩
    clear h2 h3 h4 h5 h6 h7 H3
    go_upto_if 28 with fail
    go_cut [] from 29 to 38 (fun W => ∃ xh xl : Int, Ext w W ∧ Blk W w.heap.size [.int .i64 0, .int .i64 0, .int .i64 0, .int .i64 0, .int .i64 0, .int .i64 0] 44 ∧ Blk W (w.heap.size + 1) [.int .i64 0, .int .i64 0, .slice none 0 0] 29 ∧ Blk W w2.heap.size [.int .i64 arch, .int .i64 num, .slice ca m1 cc] 29 ∧ Blk W w3.heap.size [.int .i64 ag, .int .i64 mh, .int .i64 ml, .int .i64 cm, .int .i64 xh, .int .i64 xl] 44 ∧ Wides W ca ws)
    case first =>
      cases tb
      · go_wp2
        go_meet
        case rel =>
          obtain ⟨h1, h2, h3, h4, h5, h6⟩ := H6.out
          exact ⟨vh, vl, h1, h2, h3, h4, h5, h6⟩
      · obtain ⟨hcb, hcall⟩ := HT.out rfl
        obtain ⟨a0, a2, m1', m6⟩ := condB_parts hcb
        simp only at a0 a2 m1' m6
        clear m1' m6
        obtain ⟨k, rfl⟩ : ∃ k : Nat, ag = k := ⟨ag.toNat, by omega⟩
        have h3 : ws.length = 3 := callB_three hcall
        obtain ⟨x, y, hp⟩ : ∃ x y, (x, y) = ws.getD k (0, 0) := ⟨_, _, rfl⟩
        have HP : Hid (0 < ws.length) := by unfold Hid; omega
        obtain ⟨b, off, hca, p2⟩ := H6.out.2.2.2.2.2.pair (k := k) (by omega) hp
        obtain ⟨z, hz⟩ : ∃ z, z = andW (x, y) (mh, ml) := ⟨_, rfl⟩
        have HA : Hid (∀ W : World, Calls Try.prog 20 #[.agg #[.int .i64 x, .int .i64 y], .agg #[.int .i64 mh, .int .i64 ml]] W fun e w' => e = .returned (.agg #[.int .i64 z.1, .int .i64 z.2]) ∧ Below W.heap.size W w') := fun W => by rw [hz]; exact sAnd_any x y mh ml W
        have bk : (k : Int) < (m1 : Int) := by have := HI.out.2.1; omega
        clear hz hp a0 a2 h3 hcb hcall HT
        obtain ⟨z1, z2⟩ := z
        subst hca
        go_wp2_with fail
        refine' wp_region_loose_tail 10 (.inl _ :: .inl _ :: .inl _ :: .inl _ :: .inl _ :: .inl _ :: .inl _ :: .inl _ :: .inl _ :: .inl _ :: []) (fun w' => Blk w' w3.heap.size [.int .i64 (k : Int), .int .i64 mh, .int .i64 ml, .int .i64 cm, .int .i64 vh, .int .i64 vl] 44 ∧ Blk w' w2.heap.size [.int .i64 arch, .int .i64 num, .slice (some ⟨b, off, none⟩) m1 cc] 29 ∧ Pair w' b (off + k * 2) x y) (by kernel_rfl) (by kernel_rfl) (⟨H6.out.2.2.2.2.1, H6.out.2.2.2.1, p2⟩) (fun _ _ h hE => ⟨h.1.ext hE, h.2.1.ext hE, h.2.2.step hE⟩) ?hAa ?hla ?hMa
        case' hMa => skip
        simp only [List.take_succ_cons, List.take_zero, List.drop_succ_cons, List.drop_zero]
        apply wpLoose_val rfl rfl
        case hs =>
          intro w1 hC hd Q1 hQ1
          obtain ⟨hE, hS⟩ := hC
          dsimp only [bare]
          obtain ⟨q1, q2, q3, q4, ⟨_, q5, q6⟩⟩ := (⟨hS.1.cell 0 _ rfl, hS.1.cell 1 _ rfl, hS.1.cell 2 _ rfl, hS.2.1.cell 2 _ rfl, hS.2.2⟩ : _ ∧ _ ∧ _ ∧ _ ∧ _)
          clear hd hE
          try clear hS
          go_wp2
          exact Ext.refl _
        case ha => rfl
        apply wpLoose_val rfl rfl
        case hs =>
          intro w1 hC hd Q1 hQ1
          obtain ⟨hE, hS⟩ := hC
          dsimp only [bare]
          obtain ⟨q1, q2, q3, q4, ⟨_, q5, q6⟩⟩ := (⟨hS.1.cell 0 _ rfl, hS.1.cell 1 _ rfl, hS.1.cell 2 _ rfl, hS.2.1.cell 2 _ rfl, hS.2.2⟩ : _ ∧ _ ∧ _ ∧ _ ∧ _)
          clear hd hE
          try clear hS
          go_wp2
          exact Ext.refl _
        case ha => rfl
        apply wpLoose_val rfl rfl
        case hs =>
          intro w1 hC hd Q1 hQ1
          obtain ⟨hE, hS⟩ := hC
          dsimp only [bare]
          obtain ⟨q1, q2, q3, q4, ⟨_, q5, q6⟩⟩ := (⟨hS.1.cell 0 _ rfl, hS.1.cell 1 _ rfl, hS.1.cell 2 _ rfl, hS.2.1.cell 2 _ rfl, hS.2.2⟩ : _ ∧ _ ∧ _ ∧ _ ∧ _)
          clear hd hE
          try clear hS
          go_wp2
          exact Ext.refl _
        case ha => rfl
        apply wpLoose_val rfl rfl
        case hs =>
          intro w1 hC hd Q1 hQ1
          obtain ⟨hE, hS⟩ := hC
          dsimp only [bare]
          obtain ⟨q1, q2, q3, q4, ⟨_, q5, q6⟩⟩ := (⟨hS.1.cell 0 _ rfl, hS.1.cell 1 _ rfl, hS.1.cell 2 _ rfl, hS.2.1.cell 2 _ rfl, hS.2.2⟩ : _ ∧ _ ∧ _ ∧ _ ∧ _)
          clear hd hE
          try clear hS
          go_wp2
          exact Ext.refl _
        case ha => rfl
        apply wpLoose_val rfl rfl
        case hs =>
          intro w1 hC hd Q1 hQ1
          obtain ⟨hE, hS⟩ := hC
          dsimp only [bare]
          obtain ⟨q1, q2, q3, q4, ⟨_, q5, q6⟩⟩ := (⟨hS.1.cell 0 _ rfl, hS.1.cell 1 _ rfl, hS.1.cell 2 _ rfl, hS.2.1.cell 2 _ rfl, hS.2.2⟩ : _ ∧ _ ∧ _ ∧ _ ∧ _)
          clear hd hE
          try clear hS
          go_wp2
          exact Ext.refl _
        case ha => rfl
        apply wpLoose_val rfl rfl
        case hs =>
          intro w1 hC hd Q1 hQ1
          obtain ⟨hE, hS⟩ := hC
          dsimp only [bare]
          obtain ⟨q1, q2, q3, q4, ⟨_, q5, q6⟩⟩ := (⟨hS.1.cell 0 _ rfl, hS.1.cell 1 _ rfl, hS.1.cell 2 _ rfl, hS.2.1.cell 2 _ rfl, hS.2.2⟩ : _ ∧ _ ∧ _ ∧ _ ∧ _)
          clear hd hE
          try clear hS
          go_wp2
          exact Ext.refl _
        case ha => rfl
        apply wpLoose_val rfl rfl
        case hs =>
          intro w1 hC hd Q1 hQ1
          obtain ⟨hE, hS⟩ := hC
          dsimp only [bare]
          obtain ⟨q1, q2, q3, q4, ⟨_, q5, q6⟩⟩ := (⟨hS.1.cell 0 _ rfl, hS.1.cell 1 _ rfl, hS.1.cell 2 _ rfl, hS.2.1.cell 2 _ rfl, hS.2.2⟩ : _ ∧ _ ∧ _ ∧ _ ∧ _)
          clear hd hE
          try clear hS
          go_wp2
          exact Ext.refl _
        case ha => rfl
        apply wpLoose_val rfl rfl
        case hs =>
          intro w1 hC hd Q1 hQ1
          obtain ⟨hE, hS⟩ := hC
          dsimp only [bare]
          obtain ⟨q1, q2, q3, q4, ⟨_, q5, q6⟩⟩ := (⟨hS.1.cell 0 _ rfl, hS.1.cell 1 _ rfl, hS.1.cell 2 _ rfl, hS.2.1.cell 2 _ rfl, hS.2.2⟩ : _ ∧ _ ∧ _ ∧ _ ∧ _)
          clear hd hE
          try clear hS
          go_wp2
          exact Ext.refl _
        case ha => rfl
        apply wpLoose_val rfl rfl
        case hs =>
          intro w1 hC hd Q1 hQ1
          obtain ⟨hE, hS⟩ := hC
          dsimp only [bare]
          clear hd
          go_wp2_with fail
          refine (HA.out _).mono ?_
          rintro e w2 ⟨rfl, hb⟩
          go_wp2_with fail
          exact hb
        case ha => rfl
        apply wpLoose_val rfl rfl
        case hs =>
          intro w1 hC hd Q1 hQ1
          obtain ⟨hE, hS⟩ := hC
          dsimp only [bare]
          obtain ⟨q1, q2, q3, q4, ⟨_, q5, q6⟩⟩ := (⟨hS.1.cell 0 _ rfl, hS.1.cell 1 _ rfl, hS.1.cell 2 _ rfl, hS.2.1.cell 2 _ rfl, hS.2.2⟩ : _ ∧ _ ∧ _ ∧ _ ∧ _)
          clear hd hE
          try clear hS
          go_wp2
          exact Ext.refl _
        case ha => rfl
        refine wpLoose_nil ?_
        intro wa hEa hSa hFa
        have HN : Hid (Blk wa w3.heap.size [.int .i64 (k : Int), .int .i64 mh, .int .i64 ml, .int .i64 cm, .int .i64 vh, .int .i64 vl] 44) := hSa.1
        obtain ⟨q0, q1, q2, q3, q4, q5⟩ := (⟨hSa.1.cell 0 _ rfl, hSa.1.cell 1 _ rfl, hSa.1.cell 2 _ rfl, hSa.1.cell 3 _ rfl, hSa.1.cell 4 _ rfl, hSa.1.cell 5 _ rfl⟩ : _ ∧ _ ∧ _ ∧ _ ∧ _ ∧ _)
        have fX := hSa.1.free
        have HEa : Hid (Ext wc wa) := (Ext.refl wc).drew.trans hEa
        clear hEa hSa hFa p2 bk
        try simp only [Act.put]
        go_wp2
        go_meet
        case rel =>
          obtain ⟨h1, h2, h3, h4, h5, h6⟩ := H6.out
          exact ⟨z1, z2, ((h1.trans HEa.out).set (by omega) _ _).set (by omega) _ _, ((h2.ext HEa.out).other (by omega) _ _).other (by omega) _ _, ((h3.ext HEa.out).other (by omega) _ _).other (by omega) _ _, ((h4.ext HEa.out).other (by omega) _ _).other (by omega) _ _, (HN.out.set 4 _).set 5 _, ((h6.below HEa.out (Nat.le_refl _)).far (fun b off e => by have := HX.out HP.out b off e; omega) _ _).far (fun b off e => by have := HX.out HP.out b off e; omega) _ _⟩
        case hAa => kernel_rfl
        case hla => exact ⟨trivial, trivial, trivial, trivial, trivial, trivial, trivial, trivial, trivial, trivial, trivial⟩
    case rest =>
      rename World => wd
      obtain ⟨xh, xl, h1, h2, h3, h4, h5, h6⟩ := hcut
      have HF : Hid (Ext w wd ∧ Wides wd ca ws) := ⟨h1, h6⟩
      have HR : Hid (Blk wd w.heap.size [.int .i64 0, .int .i64 0, .int .i64 0, .int .i64 0, .int .i64 0, .int .i64 0] 44 ∧ Blk wd (w.heap.size + 1) [.int .i64 0, .int .i64 0, .slice none 0 0] 29) := ⟨h2, h3⟩
      obtain ⟨q0, q1, q2, q3, q4, q5⟩ := (⟨h2.cell 0 _ rfl, h2.cell 1 _ rfl, h2.cell 2 _ rfl, h2.cell 3 _ rfl, h2.cell 4 _ rfl, h2.cell 5 _ rfl⟩ : _ ∧ _ ∧ _ ∧ _ ∧ _ ∧ _)
      obtain ⟨s0, s1, s2, s3, s4, s5⟩ := (⟨h5.cell 0 _ rfl, h5.cell 1 _ rfl, h5.cell 2 _ rfl, h5.cell 3 _ rfl, h5.cell 4 _ rfl, h5.cell 5 _ rfl⟩ : _ ∧ _ ∧ _ ∧ _ ∧ _ ∧ _)
      obtain ⟨t0, t1, t2, u0, u1, u2⟩ := (⟨h3.cell 0 _ rfl, h3.cell 1 _ rfl, h3.cell 2 _ rfl, h4.cell 0 _ rfl, h4.cell 1 _ rfl, h4.cell 2 _ rfl⟩ : _ ∧ _ ∧ _ ∧ _ ∧ _ ∧ _)
      have f1 := h2.free
      have f2 := h3.free
      have l1 := h2.lt
      have l2 := h3.lt
      clear h1 h2 h3 h4 h5 h6 H6
      go_wp2_with fail
      go_region
      go_wp2
      refine bodyPost_ret (res_cc Try.f24 Try.results24 (ninth wd w.heap.size ag mh ml cm xh xl arch num (.slice ca m1 cc)).drew _ _ _ _ _ ag mh ml cm xh xl arch num ca m1 cc (ninth_one HR.out.1).drew (ninth_two HR.out.2).drew) rfl ⟨ag, mh, ml, cm, xh, xl, arch, num, ca, m1, cc, rfl, ⟨ws, HI.out.1, HI.out.2.1, ?_⟩, ?_⟩
      · exact (ninth_wides (k := w.heap.size) (W := wd) (ag := ag) (mh := mh) (ml := ml) (cm := cm) (vh := xh) (vl := xl) (arch := arch) (num := num) (cs := .slice ca m1 cc) HF.out.2 (fun b off e => by have := HI.out.2.2 b off e; omega)).drew
      · exact (ninth_ext (k := w.heap.size) (W := wd) (ag := ag) (mh := mh) (ml := ml) (cm := cm) (vh := xh) (vl := xl) (arch := arch) (num := num) (cs := .slice ca m1 cc) HF.out.1 (Nat.le_refl _)).drew

end Go.Proofs.Ytoknlaaghjlnaaa
