/- What spec's DrawPolicyOk, DrawPolicy and DrawDecide answer. -/
import Derived.Test.YtoknlaaghjlnaaaDrawAny9
import Derived.Test.YtoknlaaghjlnaaaDraw5
namespace Go.Proofs.Ytoknlaaghjlnaaa
open Go.RowKit
set_option linter.unusedVariables false

theorem ext_new {w w1 w2 : World} (h : Ext w w1) {p : Nat} (hp : w.heap.size ≤ p) (hg : w1.grownBy w2 (some p)) : Ext w w2 := h.grown hg h.size (fun k hk => by have := Option.some.inj hk; omega)

theorem PolM.kept {B : Nat} {w w' : World} {a : Option Addr} {n : Nat} (h : PolM B w a n) (hb : ∀ b, B ≤ b → b < w.heap.size → w'.heap[b]? = w.heap[b]?) (hs : w.heap.size ≤ w'.heap.size) : PolM B w' a n := by
  obtain ⟨rs, h1, h2, h3⟩ := h
  exact ⟨rs, h1, h2, h3.kept hb hs⟩

theorem PolM.lower {B C : Nat} {w : World} {a : Option Addr} {n : Nat} (hC : C ≤ B) (h : PolM B w a n) : PolM C w a n := by
  obtain ⟨rs, h1, h2, h3⟩ := h
  exact ⟨rs, h1, h2, h3.imp (fun b hb _ => by omega)⟩

theorem wides_kept9 {w w' : World} {a : Option Addr} {ws : List (Int × Int)} {row : Option Nat} (h : Wides w a ws) (hg : w.grownBy w' row) (hr : ∀ b off, a = some ⟨b, off, none⟩ → some b ≠ row) : Wides w' a ws := fun hp => by
  obtain ⟨b, off, ha, _, _⟩ := h hp
  subst ha
  exact h.grown hg (hr b off rfl) hp

theorem cur_set9 {W : World} {p : Nat} {a : Option Addr} {len cap : Nat} (h : Cur W p a len cap) {k : Nat} (hk : k ≠ p) (hb : ∀ b off, a = some ⟨b, off, none⟩ → 0 < len → b ≠ k) (i : Nat) (v : Value) : Cur (W.setCell ⟨k, i, none⟩ v) p a len cap :=
  h.kept grown_set (ne_some hk) (fun b off e hl => ne_some (Ne.symm (hb b off e hl)))

theorem came_lt {w : World} {a : Option Addr} {len : Nat} (h : Came w a len) : ∀ b off, a = some ⟨b, off, none⟩ → 0 < len → b ≠ w.heap.size := fun b off e hl => by
  obtain ⟨b', off', e', hc⟩ := h.2 hl
  obtain ⟨x, _, hx⟩ := hc 0 hl
  have := World.block_lt_of_cell? w _ hx
  rw [e] at e'
  injection e' with e'
  injection e' with e1 _
  simp at this
  omega

theorem ext_of_none {W W' : World} (h : W.grownBy W' none) : Ext W W' := ⟨h.os, h.tape, h.output, h.size, fun k hk => h.block k hk (by simp)⟩

theorem PolM.set {B : Nat} {w : World} {a : Option Addr} {n : Nat} (h : PolM B w a n) {k : Nat} (hk : k < B) (i : Nat) (v : Value) : PolM B (w.setCell ⟨k, i, none⟩ v) a n :=
  h.kept (fun b h1 _ => Below.heap_setCell _ _ _ _ (by show b ≠ k; omega)) (by rw [World.size_setCell]; exact Nat.le_refl _)

set_option maxRecDepth 100000 in
set_option maxHeartbeats 2000000 in
theorem drawPolicyOk_any (a : Option Addr) (len cap : Nat) (w : World) (hC : Came w a len) :
    Calls Try.prog 14 #[.slice a len cap] w fun e w' => ∃ (ar ac da : Int) (a1 : Option Addr) (n1 c1 : Nat), e = .returned (.agg #[.int .i64 ar, .int .i64 ac, .int .i64 da, .slice a1 n1 c1]) ∧ PolM w.heap.size w' a1 n1 ∧ Ext w w' := by
  have HC : Hid (Came w a len) := hC
  clear hC
  go_enter Try.func14, Try.ntmps14
  go_wp2_with fail
  refine (new_any a len cap _ (HC.out.below (Ext.one _ _))).mono ?_
  rintro e w1 ⟨rfl, hc1, hb1⟩
  have r1 := (Blk.new w [.int .i64 0, .int .i64 0, .int .i64 0, .slice none 0 0] 26).ext hb1
  have HE : Hid (Ext w w1) := (Ext.one _ _).trans hb1
  have hs1 : w.heap.size + 1 < w1.heap.size := by have := hc1.lt; simpa using this
  have HC1 : Hid (Cur w1 (w.heap.size + 1) a len cap) := by simpa [Hid] using hc1
  clear hc1 hb1
  go_wp2_with fail
  refine (any9_any (w.heap.size + 1) a len cap _ HC1.out).mono ?_
  rintro e w2 ⟨ar, ac, da, a1, n1, c1, rfl, hpm, hc2, hg2⟩
  have r2 := r1.grown hg2 (ne_some (by omega))
  have HF : Hid (PolM w1.heap.size w2 a1 n1 ∧ Ext w w2) := ⟨hpm, ext_new HE.out (by omega) hg2⟩
  obtain ⟨q0, q1, q2, q3⟩ := (⟨r2.cell 0 _ rfl, r2.cell 1 _ rfl, r2.cell 2 _ rfl, r2.cell 3 _ rfl⟩ : _ ∧ _ ∧ _ ∧ _)
  have fR := r2.free
  have hlt := r2.lt
  clear hpm hc2 hg2 r1 r2 HE HC1
  go_wp2
  refine bodyPost_ret (v := .agg #[.int .i64 ar, .int .i64 ac, .int .i64 da, .slice a1 n1 c1]) (by simp [results, Try.results14, go_sem, *]) rfl ⟨_, _, _, _, _, _, rfl, ?_, ?_⟩
  · exact PolM.lower (B := w1.heap.size) (by omega) ((((HF.out.1.set (by omega) _ _).set (by omega) _ _).set (by omega) _ _).set (by omega) _ _)
  · exact (((HF.out.2.set (Nat.le_refl _) _ _).set (Nat.le_refl _) _ _).set (Nat.le_refl _) _ _).set (Nat.le_refl _) _ _

/-- A right policy of arch 62. -/
def RightPol (w : World) (ac da : Int) (a : Option Addr) (n : Nat) : Prop := ∃ pol : PN, policyB pol = true ∧ SmallR pol.rules ∧ pol.arch = 62 ∧ pol.act = ac ∧ pol.data = da ∧ n = pol.rules.length ∧ Rules w a pol.rules

def RightCall (w : World) (arch num : Int) (a : Option Addr) (n : Nat) : Prop := ∃ ws : List (Int × Int), callB arch num ws = true ∧ n = ws.length ∧ Wides w a ws

def AnyCall (w : World) (a : Option Addr) (n : Nat) : Prop := ∃ ws : List (Int × Int), ws.length ≤ 3 ∧ n = ws.length ∧ Wides w a ws

set_option maxRecDepth 100000 in
set_option maxHeartbeats 4000000 in
theorem drawPolicy_any (a : Option Addr) (len cap : Nat) (w : World) (hC : Came w a len) :
    Calls Try.prog 10 #[.slice a len cap] w fun e w' => ∃ (a1 : Option Addr) (n1 c1 : Nat) (ac da arch num : Int) (ca : Option Addr) (m1 cc : Nat), e = .returned (.tuple #[.agg #[.int .i64 62, .int .i64 ac, .int .i64 da, .slice a1 n1 c1], .agg #[.int .i64 arch, .int .i64 num, .slice ca m1 cc]]) ∧ RightPol w' ac da a1 n1 ∧ RightCall w' arch num ca m1 ∧ Ext w w' := by
  have HC : Hid (Came w a len) := hC
  clear hC
  go_enter Try.func10, Try.ntmps10
  go_wp2_with fail
  refine (new_any a len cap _ (HC.out.below ((Ext.one _ _).alloc _))).mono ?_
  rintro e w1 ⟨rfl, hc1, hb1⟩
  have r1 := ((Blk.new w [.int .i64 0, .int .i64 0, .int .i64 0, .slice none 0 0] 26).alloc (.cells #[.int .i64 0, .int .i64 0, .slice none 0 0] 29)).ext hb1
  have t1 : Blk w1 (w.heap.size + 1) [.int .i64 0, .int .i64 0, .slice none 0 0] 29 := (Blk.newAt (w.alloc (.cells #[.int .i64 0, .int .i64 0, .int .i64 0, .slice none 0 0] 26)) [.int .i64 0, .int .i64 0, .slice none 0 0] 29 (w.heap.size + 1) (by simp)).ext hb1
  have HE : Hid (Ext w w1) := ((Ext.one _ _).alloc _).trans hb1
  have hs1 : w.heap.size + 1 + 1 < w1.heap.size := by have := hc1.lt; simpa using this
  have HC1 : Hid (Cur w1 (w.heap.size + 1 + 1) a len cap) := by simpa [Hid] using hc1
  clear hc1 hb1
  go_wp2_with fail
  refine (policy_any (w.heap.size + 1 + 1) a len cap _ HC1.out).mono ?_
  rintro e w2 ⟨pol, a1, n1, c1, ac, da, hpb, hps, rfl, hp1, hp2, hp3, hp4, hrp, hc2, hg2⟩
  have x2 := Blk.new w2 [.int .i64 62, .int .i64 ac, .int .i64 da, .slice a1 n1 c1] 26
  have HI : Hid (policyB pol = true ∧ SmallR pol.rules ∧ pol.arch = 62 ∧ pol.act = ac ∧ pol.data = da ∧ n1 = pol.rules.length) := ⟨hpb, hps, hp1, hp2, hp3, hp4⟩
  have H2 : Hid (Cur (w2.alloc (.cells #[.int .i64 62, .int .i64 ac, .int .i64 da, .slice a1 n1 c1] 26)) (w.heap.size + 1 + 1) a len cap ∧ Ext w (w2.alloc (.cells #[.int .i64 62, .int .i64 ac, .int .i64 da, .slice a1 n1 c1] 26)) ∧ Blk (w2.alloc (.cells #[.int .i64 62, .int .i64 ac, .int .i64 da, .slice a1 n1 c1] 26)) w.heap.size [.int .i64 0, .int .i64 0, .int .i64 0, .slice none 0 0] 26 ∧ Blk (w2.alloc (.cells #[.int .i64 62, .int .i64 ac, .int .i64 da, .slice a1 n1 c1] 26)) (w.heap.size + 1) [.int .i64 0, .int .i64 0, .slice none 0 0] 29 ∧ Blk (w2.alloc (.cells #[.int .i64 62, .int .i64 ac, .int .i64 da, .slice a1 n1 c1] 26)) w2.heap.size [.int .i64 62, .int .i64 ac, .int .i64 da, .slice a1 n1 c1] 26 ∧ RulesP (fun b => w1.heap.size ≤ b) (w2.alloc (.cells #[.int .i64 62, .int .i64 ac, .int .i64 da, .slice a1 n1 c1] 26)) a1 pol.rules ∧ w1.heap.size < (w2.alloc (.cells #[.int .i64 62, .int .i64 ac, .int .i64 da, .slice a1 n1 c1] 26)).heap.size) :=
    ⟨hc2.alloc _, (ext_new HE.out (by omega) hg2).alloc _, (r1.grown hg2 (ne_some (by omega))).alloc _, (t1.grown hg2 (ne_some (by omega))).alloc _, x2, hrp.alloc _, by have := hg2.size; simp; omega⟩
  have hs2 : w1.heap.size ≤ w2.heap.size := hg2.size
  clear hpb hps hp1 hp2 hp3 hp4 hrp hc2 hg2 r1 t1 HE HC1 x2
  go_wp2_with fail
  generalize w2.alloc (.cells #[.int .i64 62, .int .i64 ac, .int .i64 da, .slice a1 n1 c1] 26) = W5 at *
  refine' wp_region_looset_tail 3 2 (.inl _ :: .inl _ :: .inr (fun v W => ∃ (arch num : Int) (ws : List (Int × Int)) (ca : Option Addr) (m1 cc : Nat), callB arch num ws = true ∧ v = .agg #[.int .i64 arch, .int .i64 num, .slice ca m1 cc] ∧ m1 = ws.length ∧ Wides W ca ws ∧ ∀ b off, ca = some ⟨b, off, none⟩ → w1.heap.size < b) :: []) (fun b W => Cur W (w.heap.size + 1 + 1) a len cap ∧ Ext w W ∧ Blk W w.heap.size [.int .i64 0, .int .i64 0, .int .i64 0, .slice none 0 0] 26 ∧ Blk W (w.heap.size + 1) [.int .i64 0, .int .i64 0, .slice none 0 0] 29 ∧ Blk W w2.heap.size [.int .i64 62, .int .i64 ac, .int .i64 da, .slice a1 n1 c1] 26 ∧ RulesP (fun b => w1.heap.size ≤ b) W a1 pol.rules ∧ w1.heap.size < W.heap.size) (fun j W W' => j ≠ 2 → W.grownBy W' none) (by kernel_rfl) (by kernel_rfl) (⟨H2.out.1, H2.out.2.1.drew, H2.out.2.2.1, H2.out.2.2.2.1, H2.out.2.2.2.2.1, H2.out.2.2.2.2.2.1.kept (w' := W5.drew) (fun _ _ _ => rfl) (Nat.le_refl _), H2.out.2.2.2.2.2.2⟩) (by decide) (fun h => by cases h) ?hAx ?hlx ?hMx
  case' hMx => skip
  simp only [List.take_succ_cons, List.take_zero, List.drop_succ_cons, List.drop_zero]
  apply wpLooseT_val rfl rfl (by decide)
  case hs =>
    intro b1 w1 hC hd Q1 hQ1
    dsimp only [bare]
    obtain ⟨q0, q1, q2, q3⟩ := (⟨hC.2.2.2.2.1.cell 0 _ rfl, hC.2.2.2.2.1.cell 1 _ rfl, hC.2.2.2.2.1.cell 2 _ rfl, hC.2.2.2.2.1.cell 3 _ rfl⟩ : _ ∧ _ ∧ _ ∧ _)
    clear hd
    have HCC : Hid _ := hC
    clear hC
    go_wp2
    exact ⟨HCC.out, fun _ => grown_refl _ _⟩
  case ha => rfl
  apply wpLooseT_val rfl rfl (by decide)
  case hs =>
    intro b1 w1 hC hd Q1 hQ1
    dsimp only [bare]
    obtain ⟨q0, q1, q2, q3⟩ := (⟨hC.2.2.2.2.1.cell 0 _ rfl, hC.2.2.2.2.1.cell 1 _ rfl, hC.2.2.2.2.1.cell 2 _ rfl, hC.2.2.2.2.1.cell 3 _ rfl⟩ : _ ∧ _ ∧ _ ∧ _)
    clear hd
    have HCC : Hid _ := hC
    clear hC
    go_wp2
    exact ⟨HCC.out, fun _ => grown_refl _ _⟩
  case ha => rfl
  refine wpLooseT_spec rfl rfl (by decide) ?_ (fun vx_2 => ?_)
  · intro w1 hC hd Q1 hQ1
    dsimp only [bare]
    clear hd
    have HCC : Hid _ := hC
    have HQ : Hid _ := hQ1
    clear hC hQ1
    go_wp2_with fail
    refine (call_any (w.heap.size + 1 + 1) a len cap _ HCC.out.1).mono ?_
    rintro e w7 ⟨arch, num, ws, v, hcb, rfl, ⟨av, cv, rfl, hcv, hw, hf, hz⟩, hc7, hg7⟩
    go_wp2_with fail
    obtain ⟨h1, h2, h3, h4, h5, h6, h7⟩ := HCC.out
    exact HQ.out _ _ ⟨⟨hc7, ext_new h2 (by omega) hg7, h3.grown hg7 (ne_some (by omega)), h4.grown hg7 (ne_some (by omega)), h5.grown hg7 (ne_some (by omega)), h6.kept (fun b hb hl => hg7.block b hl (ne_some (by omega))) hg7.size, Nat.lt_of_lt_of_le h7 hg7.size⟩, fun h => absurd rfl h, arch, num, ws, av, ws.length, cv, hcb, rfl, rfl, hw, fun b off e => by have := hf b off e; omega⟩
  refine wpLooseT_nil ?_
  intro wx hCx hFx
  obtain ⟨h1, h2, h3, h4, h5, h6, h7⟩ := hCx
  obtain ⟨arch, num, ws, ca, m1, cc, hcb, rfl, hm1, hw, hf⟩ := (hFx 2 _ rfl (by decide) (by simp [Act.put]) : ∃ (arch num : Int) (ws : List (Int × Int)) (ca : Option Addr) (m1 cc : Nat), callB arch num ws = true ∧ vx_2 = .agg #[.int .i64 arch, .int .i64 num, .slice ca m1 cc] ∧ m1 = ws.length ∧ Wides wx ca ws ∧ ∀ b off, ca = some ⟨b, off, none⟩ → w1.heap.size < b)
  have HF : Hid (callB arch num ws = true ∧ m1 = ws.length ∧ RulesP (fun b => w1.heap.size ≤ b) wx a1 pol.rules ∧ Wides wx ca ws ∧ (∀ b off, ca = some ⟨b, off, none⟩ → w1.heap.size < b) ∧ Ext w wx) := ⟨hcb, hm1, h6, hw, hf, h2⟩
  obtain ⟨q0, q1, q2, q3, t0, t1, t2⟩ := (⟨h3.cell 0 _ rfl, h3.cell 1 _ rfl, h3.cell 2 _ rfl, h3.cell 3 _ rfl, h4.cell 0 _ rfl, h4.cell 1 _ rfl, h4.cell 2 _ rfl⟩ : _ ∧ _ ∧ _ ∧ _ ∧ _ ∧ _ ∧ _)
  have f1 := h3.free
  have f2 := h4.free
  have hlt := h4.lt
  clear h1 h2 h3 h4 h5 h6 h7 hcb hm1 hw hf hFx H2
  go_wp2
  refine bodyPost_ret (v := .tuple #[.agg #[.int .i64 62, .int .i64 ac, .int .i64 da, .slice a1 n1 c1], .agg #[.int .i64 arch, .int .i64 num, .slice ca m1 cc]]) (by simp [results, Try.results10, go_sem, *]) rfl ⟨a1, n1, c1, ac, da, arch, num, ca, m1, cc, rfl, ⟨pol, HI.out.1, HI.out.2.1, HI.out.2.2.1, HI.out.2.2.2.1, HI.out.2.2.2.2.1, HI.out.2.2.2.2.2, ?_⟩, ⟨ws, HF.out.1, HF.out.2.1, ?_⟩, ?_⟩
  · exact RulesP.rules (φ := fun b => w1.heap.size ≤ b) (((((((HF.out.2.2.1.set (fun b hb => by omega) _ _).set (fun b hb => by omega) _ _).set (fun b hb => by omega) _ _).set (fun b hb => by omega) _ _).set (fun b hb => by omega) _ _).set (fun b hb => by omega) _ _).set (fun b hb => by omega) _ _)
  · exact ((((((HF.out.2.2.2.1.far (fun b off e => by have := HF.out.2.2.2.2.1 b off e; omega) _ _).far (fun b off e => by have := HF.out.2.2.2.2.1 b off e; omega) _ _).far (fun b off e => by have := HF.out.2.2.2.2.1 b off e; omega) _ _).far (fun b off e => by have := HF.out.2.2.2.2.1 b off e; omega) _ _).far (fun b off e => by have := HF.out.2.2.2.2.1 b off e; omega) _ _).far (fun b off e => by have := HF.out.2.2.2.2.1 b off e; omega) _ _).far (fun b off e => by have := HF.out.2.2.2.2.1 b off e; omega) _ _
  · exact ((((((HF.out.2.2.2.2.2.set (by omega) _ _).set (by omega) _ _).set (by omega) _ _).set (by omega) _ _).set (by omega) _ _).set (by omega) _ _).set (by omega) _ _
  case hAx => kernel_rfl
  case hlx => exact ⟨trivial, trivial, fun i hi v W W' ⟨arch, num, ws, ca, m1, cc, e1, e2, e3, e4, e5⟩ hT => ⟨arch, num, ws, ca, m1, cc, e1, e2, e3, e4.below (ext_of_none (hT hi)) (Nat.le_refl _), e5⟩, trivial⟩

set_option maxRecDepth 100000 in
set_option maxHeartbeats 4000000 in
theorem drawDecide_any (a : Option Addr) (len cap : Nat) (w : World) (hC : Came w a len) :
    Calls Try.prog 13 #[.slice a len cap] w fun e w' => ∃ (ar ac da : Int) (a1 : Option Addr) (n1 c1 : Nat) (arch num : Int) (ca : Option Addr) (m1 cc : Nat), e = .returned (.tuple #[.agg #[.int .i64 ar, .int .i64 ac, .int .i64 da, .slice a1 n1 c1], .agg #[.int .i64 arch, .int .i64 num, .slice ca m1 cc]]) ∧ PolM w.heap.size w' a1 n1 ∧ AnyCall w' ca m1 ∧ Ext w w' := by
  have HC : Hid (Came w a len) := hC
  have HCB : Hid (∀ b off, a = some ⟨b, off, none⟩ → 0 < len → b ≠ w.heap.size) := came_lt hC
  clear hC
  go_enter Try.func13, Try.ntmps13
  go_wp2_with fail
  refine (new_any a len cap _ (HC.out.below ((Ext.one _ _).alloc _))).mono ?_
  rintro e u1 ⟨rfl, hc1, hb1⟩
  have r1 := ((Blk.new w [.int .i64 0, .int .i64 0, .int .i64 0, .slice none 0 0] 26).alloc (.cells #[.int .i64 0, .int .i64 0, .slice none 0 0] 29)).ext hb1
  have t1 : Blk u1 (w.heap.size + 1) [.int .i64 0, .int .i64 0, .slice none 0 0] 29 := (Blk.newAt (w.alloc (.cells #[.int .i64 0, .int .i64 0, .int .i64 0, .slice none 0 0] 26)) [.int .i64 0, .int .i64 0, .slice none 0 0] 29 (w.heap.size + 1) (by simp)).ext hb1
  have HE : Hid (Ext w u1) := ((Ext.one _ _).alloc _).trans hb1
  have hs1 : w.heap.size + 1 + 1 < u1.heap.size := by have := hc1.lt; simpa using this
  have HC1 : Hid (Cur u1 (w.heap.size + 1 + 1) a len cap) := by simpa [Hid] using hc1
  clear hc1 hb1
  go_wp2_with fail
  refine (any_any (w.heap.size + 1 + 1) a len cap _ HC1.out).mono ?_
  rintro e w2 ⟨arch, num, ws, v, hl3, rfl, ⟨ca, cc, rfl, hcv, hw, hf, hz⟩, hc2, hg2⟩
  obtain ⟨m1, hm1⟩ : ∃ m1, m1 = ws.length := ⟨_, rfl⟩
  rw [← hm1]
  have x2 := Blk.new w2 [.int .i64 arch, .int .i64 num, .slice ca m1 cc] 29
  have hwq : Wides (w2.alloc (.cells #[.int .i64 arch, .int .i64 num, .slice ca m1 cc] 29)) ca ws := hw.below (Ext.one _ _) (Nat.le_refl _)
  have H2 : Hid (Cur (w2.alloc (.cells #[.int .i64 arch, .int .i64 num, .slice ca m1 cc] 29)) (w.heap.size + 1 + 1) a len cap ∧ Ext w (w2.alloc (.cells #[.int .i64 arch, .int .i64 num, .slice ca m1 cc] 29)) ∧ Blk (w2.alloc (.cells #[.int .i64 arch, .int .i64 num, .slice ca m1 cc] 29)) w.heap.size [.int .i64 0, .int .i64 0, .int .i64 0, .slice none 0 0] 26 ∧ Blk (w2.alloc (.cells #[.int .i64 arch, .int .i64 num, .slice ca m1 cc] 29)) (w.heap.size + 1) [.int .i64 0, .int .i64 0, .slice none 0 0] 29 ∧ Blk (w2.alloc (.cells #[.int .i64 arch, .int .i64 num, .slice ca m1 cc] 29)) w2.heap.size [.int .i64 arch, .int .i64 num, .slice ca m1 cc] 29 ∧ Wides (w2.alloc (.cells #[.int .i64 arch, .int .i64 num, .slice ca m1 cc] 29)) ca ws ∧ u1.heap.size < (w2.alloc (.cells #[.int .i64 arch, .int .i64 num, .slice ca m1 cc] 29)).heap.size) :=
    ⟨hc2.alloc _, (ext_new HE.out (by omega) hg2).alloc _, (r1.grown hg2 (ne_some (by omega))).alloc _, (t1.grown hg2 (ne_some (by omega))).alloc _, x2, hwq, by have := hg2.size; simp; omega⟩
  have HI : Hid (ws.length ≤ 3 ∧ m1 = ws.length ∧ ∀ b off, ca = some ⟨b, off, none⟩ → u1.heap.size ≤ b) := ⟨hl3, hm1, hf⟩
  have hs2 : u1.heap.size ≤ w2.heap.size := hg2.size
  clear hl3 hcv hw hf hz hc2 hg2 r1 t1 HE HC1 x2 hm1 hwq
  go_wp2_with fail
  generalize w2.alloc (.cells #[.int .i64 arch, .int .i64 num, .slice ca m1 cc] 29) = W5 at *
  refine' wp_region_looset_tail 4 3 (.inl _ :: .inr (fun v W => ∃ (ar ac da : Int) (a1 : Option Addr) (n1 c1 : Nat), v = .agg #[.int .i64 ar, .int .i64 ac, .int .i64 da, .slice a1 n1 c1] ∧ PolM (u1.heap.size + 1) W a1 n1) :: .inl _ :: .inr (fun v W => True) :: []) (fun b W => (Cur W (w.heap.size + 1 + 1) a len cap ∧ Ext w W ∧ Blk W (w.heap.size + 1) [.int .i64 0, .int .i64 0, .slice none 0 0] 29 ∧ Blk W w2.heap.size [.int .i64 arch, .int .i64 num, .slice ca m1 cc] 29 ∧ Wides W ca ws ∧ u1.heap.size < W.heap.size) ∧ (b = false → Blk W w.heap.size [.int .i64 0, .int .i64 0, .int .i64 0, .slice none 0 0] 26) ∧ (b = true → ∃ (ar ac da : Int) (a1 : Option Addr) (n1 c1 : Nat), Blk W w.heap.size [.int .i64 ar, .int .i64 ac, .int .i64 da, .slice a1 n1 c1] 26 ∧ PolM (u1.heap.size + 1) W a1 n1)) (fun j W W' => (j = 3 → W.grownBy W' (some w.heap.size)) ∧ (j ≠ 1 → j ≠ 3 → W.grownBy W' none)) (by kernel_rfl) (by kernel_rfl) (⟨⟨H2.out.1, H2.out.2.1.drew, H2.out.2.2.2.1, H2.out.2.2.2.2.1, H2.out.2.2.2.2.2.1, H2.out.2.2.2.2.2.2⟩, fun _ => H2.out.2.2.1, fun h => (by cases h)⟩) (by decide) (fun h => by cases h) ?hAy ?hly ?hMy
  case' hMy => skip
  simp only [List.take_succ_cons, List.take_zero, List.drop_succ_cons, List.drop_zero]
  apply wpLooseT_val rfl rfl (by decide)
  case hs =>
    intro b1 w1 hC hd Q1 hQ1
    dsimp only [bare]
    obtain ⟨q0, q1, q2⟩ := (⟨hC.1.2.2.2.1.cell 0 _ rfl, hC.1.2.2.2.1.cell 1 _ rfl, hC.1.2.2.2.1.cell 2 _ rfl⟩ : _ ∧ _ ∧ _)
    clear hd
    have HCC : Hid _ := hC
    clear hC
    go_wp2
    exact ⟨HCC.out, ⟨fun h => by omega, fun _ _ => grown_refl _ _⟩⟩
  case ha => rfl
  refine wpLooseT_rel rfl rfl (by decide) ?_ (fun vy_1 => ?_)
  · intro b1 w1 hC hd Q1 hQ1
    dsimp only [bare]
    clear hd
    have HCC : Hid _ := hC
    have HQ : Hid _ := hQ1
    clear hC hQ1
    go_wp2_with fail
    refine (any9_any (w.heap.size + 1 + 1) a len cap _ HCC.out.1.1).mono ?_
    rintro e w7 ⟨ar, ac, da, a1, n1, c1, rfl, hpm, hc7, hg7⟩
    go_wp2_with fail
    obtain ⟨⟨h1, h2, h4, h5, h6, h7⟩, h8, h9⟩ := HCC.out
    exact HQ.out _ _ ⟨⟨⟨hc7, ext_new h2 (by omega) hg7, h4.grown hg7 (ne_some (by omega)), h5.grown hg7 (ne_some (by omega)), wides_kept9 h6 hg7 (fun b off e => ne_some (by have := HI.out.2.2 b off e; omega)), Nat.lt_of_lt_of_le h7 hg7.size⟩, fun hb => (h8 hb).grown hg7 (ne_some (by omega)), fun hb => by obtain ⟨x1, x2, x3, x4, x5, x6, x7, x8⟩ := h9 hb; exact ⟨x1, x2, x3, x4, x5, x6, x7.grown hg7 (ne_some (by omega)), x8.kept (fun b hb hl => hg7.block b hl (ne_some (by omega))) hg7.size⟩⟩, ⟨fun h => by omega, fun h => absurd rfl h⟩, ar, ac, da, a1, n1, c1, rfl, PolM.lower (by omega) hpm⟩
  apply wpLooseT_val rfl rfl (by decide)
  case hs =>
    intro b1 w1 hC hd Q1 hQ1
    dsimp only [bare]
    obtain ⟨q0, q1, q2⟩ := (⟨hC.1.2.2.2.1.cell 0 _ rfl, hC.1.2.2.2.1.cell 1 _ rfl, hC.1.2.2.2.1.cell 2 _ rfl⟩ : _ ∧ _ ∧ _)
    clear hd
    have HCC : Hid _ := hC
    clear hC
    go_wp2
    exact ⟨HCC.out, ⟨fun h => by omega, fun _ _ => grown_refl _ _⟩⟩
  case ha => rfl
  refine wpLooseT_spec rfl rfl (by decide) ?_ (fun vy_3 => ?_)
  · intro w1 hC hd Q1 hQ1
    dsimp only [bare]
    have h1 : ∃ (ar ac da : Int) (a1 : Option Addr) (n1 c1 : Nat), vy_1 = .agg #[.int .i64 ar, .int .i64 ac, .int .i64 da, .slice a1 n1 c1] ∧ PolM (u1.heap.size + 1) w1 a1 n1 := hd ⟨1, .data⟩ (by simp) rfl _ rfl (by simp)
    clear hd
    obtain ⟨ar, ac, da, a1, n1, c1, rfl, hpm⟩ := h1
    have hr := hC.2.1 rfl
    obtain ⟨q0, q1, q2, q3⟩ := (⟨hr.cell 0 _ rfl, hr.cell 1 _ rfl, hr.cell 2 _ rfl, hr.cell 3 _ rfl⟩ : _ ∧ _ ∧ _ ∧ _)
    have fr := hr.free
    have HCC : Hid _ := hC
    have HQ : Hid _ := hQ1
    have HPM : Hid (PolM (u1.heap.size + 1) w1 a1 n1) := hpm
    clear hC hQ1 hpm hr
    go_wp2
    obtain ⟨⟨h1, h2, h4, h5, h6, h7⟩, h8, h9⟩ := HCC.out
    refine HQ.out undef _ ⟨⟨⟨cur_set9 (cur_set9 (cur_set9 (cur_set9 h1 (by omega) HCB.out _ _) (by omega) HCB.out _ _) (by omega) HCB.out _ _) (by omega) HCB.out _ _, (((h2.set (Nat.le_refl _) _ _).set (Nat.le_refl _) _ _).set (Nat.le_refl _) _ _).set (Nat.le_refl _) _ _, (((h4.other (by omega) _ _).other (by omega) _ _).other (by omega) _ _).other (by omega) _ _, (((h5.other (by omega) _ _).other (by omega) _ _).other (by omega) _ _).other (by omega) _ _, (((h6.far (fun b off e => by have := HI.out.2.2 b off e; omega) _ _).far (fun b off e => by have := HI.out.2.2 b off e; omega) _ _).far (fun b off e => by have := HI.out.2.2 b off e; omega) _ _).far (fun b off e => by have := HI.out.2.2 b off e; omega) _ _, by simp only [World.size_setCell]; exact h7⟩, fun hb => (by cases hb), fun _ => ⟨ar, ac, da, a1, n1, c1, ((((h8 (by simp)).set 0 _).set 1 _).set 2 _).set 3 _, PolM.set (PolM.set (PolM.set (PolM.set HPM.out (by omega) _ _) (by omega) _ _) (by omega) _ _) (by omega) _ _⟩⟩, ⟨fun _ => grown_trans (grown_trans (grown_trans grown_set grown_set) grown_set) grown_set, fun _ h => absurd rfl h⟩, trivial⟩
  refine wpLooseT_nil ?_
  intro wy hCy hFy
  obtain ⟨⟨h1, h2, h4, h5, h6, h7⟩, _, h9⟩ := hCy
  obtain ⟨ar, ac, da, a1, n1, c1, h3, hpm⟩ := h9 (by simp)
  have HF : Hid (PolM (u1.heap.size + 1) wy a1 n1 ∧ Wides wy ca ws ∧ Ext w wy) := ⟨hpm, h6, h2⟩
  obtain ⟨q0, q1, q2, q3, t0, t1, t2⟩ := (⟨h3.cell 0 _ rfl, h3.cell 1 _ rfl, h3.cell 2 _ rfl, h3.cell 3 _ rfl, h4.cell 0 _ rfl, h4.cell 1 _ rfl, h4.cell 2 _ rfl⟩ : _ ∧ _ ∧ _ ∧ _ ∧ _ ∧ _ ∧ _)
  have f2 := h4.free
  have hlt := h4.lt
  clear h1 h2 h3 h4 h5 h6 h7 h9 hpm hFy H2
  go_wp2
  refine bodyPost_ret (v := .tuple #[.agg #[.int .i64 ar, .int .i64 ac, .int .i64 da, .slice a1 n1 c1], .agg #[.int .i64 arch, .int .i64 num, .slice ca m1 cc]]) (by simp [results, Try.results13, go_sem, *]) rfl ⟨ar, ac, da, a1, n1, c1, arch, num, ca, m1, cc, rfl, ?_, ⟨ws, HI.out.1, HI.out.2.1, ?_⟩, ?_⟩
  · exact PolM.lower (B := u1.heap.size + 1) (by omega) (((HF.out.1.set (by omega) _ _).set (by omega) _ _).set (by omega) _ _)
  · exact ((HF.out.2.1.far (fun b off e => by have := HI.out.2.2 b off e; omega) _ _).far (fun b off e => by have := HI.out.2.2 b off e; omega) _ _).far (fun b off e => by have := HI.out.2.2 b off e; omega) _ _
  · exact ((HF.out.2.2.set (by omega) _ _).set (by omega) _ _).set (by omega) _ _
  case hAy => kernel_rfl
  case hly => exact ⟨trivial, fun i hi v W W' ⟨ar, ac, da, a1, n1, c1, e1, e2⟩ hT => ⟨ar, ac, da, a1, n1, c1, e1, by by_cases h3 : i = 3; exact e2.kept (fun b hb hl => (hT.1 h3).block b hl (ne_some (by omega))) (hT.1 h3).size; exact e2.kept (fun b _ hl => (hT.2 hi h3).block b hl (by simp)) (hT.2 hi h3).size⟩, trivial, fun _ _ _ _ _ h _ => h, trivial⟩

end Go.Proofs.Ytoknlaaghjlnaaa
