/- What spec's DrawCondOk, DrawRule, DrawCond and DrawCondHolds answer. -/
import Derived.Test.YthflflhcbnianaaDoorCrPack22
import Derived.Test.YthflflhcbnianaaDoorCrPack18
import Derived.Test.YthflflhcbnianaaDoorCrPack15
import Derived.Deep.Cut
import Derived.Deep.CutRange
import Derived.Deep.CutBlock
namespace Go.Proofs.YthflflhcbnianaaDoor
open Go.RowKit
set_option linter.unusedVariables false

theorem ext_newC {w w1 w2 : World} (h : Ext w w1) {p : Nat} (hp : w.heap.size ≤ p) (hg : w1.grownBy w2 (some p)) : Ext w w2 := h.grown hg h.size (fun k hk => by have := Option.some.inj hk; omega)

theorem ext_ofNone {W W' : World} (h : W.grownBy W' none) : Ext W W' := ⟨h.os, h.tape, h.output, h.size, fun k hk => h.block k hk (by simp)⟩

theorem wides_keptC {w w' : World} {a : Option Addr} {ws : List (Int × Int)} {row : Option Nat} (h : Wides w a ws) (hg : w.grownBy w' row) (hr : ∀ b off, a = some ⟨b, off, none⟩ → some b ≠ row) : Wides w' a ws := fun hp => by
  obtain ⟨b, off, ha, _, _⟩ := h hp
  subst ha
  exact h.grown hg (hr b off rfl) hp

/-- A right rule as its four cells. -/
def RightRule (w : World) (ac da : Int) (a1 : Option Addr) (n1 : Nat) (a2 : Option Addr) (n2 : Nat) : Prop := ∃ r : RN, ruleB r = true ∧ Small r ∧ r.act = ac ∧ r.data = da ∧ n1 = r.nums.length ∧ n2 = r.conds.length ∧ Nums w a1 r.nums ∧ Conds w a2 r.conds

def CallR (w : World) (arch num : Int) (a : Option Addr) (n : Nat) : Prop := ∃ ws : List (Int × Int), callB arch num ws = true ∧ n = ws.length ∧ Wides w a ws

set_option maxRecDepth 100000 in
set_option maxHeartbeats 4000000 in
theorem drawRule_any (a : Option Addr) (len cap : Nat) (w : World) (hC : Came w a len) :
    Calls Tryd.prog 11 #[.slice a len cap] w fun e w' => ∃ (a1 : Option Addr) (n1 c1 : Nat) (a2 : Option Addr) (n2 c2 : Nat) (ac da arch num : Int) (ca : Option Addr) (m1 cc : Nat), e = .returned (.tuple #[.agg #[.slice a1 n1 c1, .slice a2 n2 c2, .int .i64 ac, .int .i64 da], .agg #[.int .i64 arch, .int .i64 num, .slice ca m1 cc]]) ∧ RightRule w' ac da a1 n1 a2 n2 ∧ CallR w' arch num ca m1 ∧ Ext w w' := by
  have HC : Hid (Came w a len) := hC
  clear hC
  go_enter Tryd.func11, Tryd.ntmps11
  go_wp2_with fail
  refine (new_any a len cap _ (HC.out.below ((Ext.one _ _).alloc _))).mono ?_
  rintro e w1 ⟨rfl, hc1, hb1⟩
  have r1 := ((Blk.new w [.slice none 0 0, .slice none 0 0, .int .i64 0, .int .i64 0] 47).alloc (.cells #[.int .i64 0, .int .i64 0, .slice none 0 0] 30)).ext hb1
  have t1 : Blk w1 (w.heap.size + 1) [.int .i64 0, .int .i64 0, .slice none 0 0] 30 := (Blk.newAt (w.alloc (.cells #[.slice none 0 0, .slice none 0 0, .int .i64 0, .int .i64 0] 47)) [.int .i64 0, .int .i64 0, .slice none 0 0] 30 (w.heap.size + 1) (by simp)).ext hb1
  have HE : Hid (Ext w w1) := ((Ext.one _ _).alloc _).trans hb1
  have hs1 : w.heap.size + 1 + 1 < w1.heap.size := by have := hc1.lt; simpa using this
  have HC1 : Hid (Cur w1 (w.heap.size + 1 + 1) a len cap) := by simpa [Hid] using hc1
  clear hc1 hb1
  go_wp2_with fail
  refine (made_any (w.heap.size + 1 + 1) a len cap _ HC1.out).mono ?_
  rintro e w2 ⟨r, a1, n1, c1, a2, n2, c2, ac, da, hrb, hrs, rfl, hrn, hc2, hg2⟩
  obtain ⟨⟨a1', n1', c1', a2', n2', c2', e0, e1, e2, hn, hc, hf1, hf2⟩, _⟩ := hrn
  simp only [List.cons.injEq, Value.slice.injEq, Value.int.injEq, true_and, and_true] at e0
  obtain ⟨⟨rfl, rfl, rfl⟩, ⟨rfl, rfl, rfl⟩, hac, hda⟩ := e0
  have x2 := Blk.new w2 [.slice a1 n1 c1, .slice a2 n2 c2, .int .i64 ac, .int .i64 da] 47
  have HI : Hid (ruleB r = true ∧ Small r ∧ r.act = ac ∧ r.data = da ∧ n1 = r.nums.length ∧ n2 = r.conds.length) := ⟨hrb, hrs, hac.symm, hda.symm, e1, e2⟩
  have hs2 : w1.heap.size ≤ w2.heap.size := hg2.size
  obtain ⟨ol, hol⟩ : ∃ ol, ol = Obj.cells #[.slice a1 n1 c1, .slice a2 n2 c2, .int .i64 ac, .int .i64 da] 47 (0, 0) := ⟨_, rfl⟩
  have H2 : Hid (Cur (w2.alloc (.cells #[.slice a1 n1 c1, .slice a2 n2 c2, .int .i64 ac, .int .i64 da] 47)) (w.heap.size + 1 + 1) a len cap ∧ Ext w (w2.alloc (.cells #[.slice a1 n1 c1, .slice a2 n2 c2, .int .i64 ac, .int .i64 da] 47)) ∧ Blk (w2.alloc (.cells #[.slice a1 n1 c1, .slice a2 n2 c2, .int .i64 ac, .int .i64 da] 47)) w.heap.size [.slice none 0 0, .slice none 0 0, .int .i64 0, .int .i64 0] 47 ∧ Blk (w2.alloc (.cells #[.slice a1 n1 c1, .slice a2 n2 c2, .int .i64 ac, .int .i64 da] 47)) (w.heap.size + 1) [.int .i64 0, .int .i64 0, .slice none 0 0] 30 ∧ Blk (w2.alloc (.cells #[.slice a1 n1 c1, .slice a2 n2 c2, .int .i64 ac, .int .i64 da] 47)) w2.heap.size [.slice a1 n1 c1, .slice a2 n2 c2, .int .i64 ac, .int .i64 da] 47 ∧ Nums (w2.alloc (.cells #[.slice a1 n1 c1, .slice a2 n2 c2, .int .i64 ac, .int .i64 da] 47)) a1 r.nums ∧ Conds (w2.alloc (.cells #[.slice a1 n1 c1, .slice a2 n2 c2, .int .i64 ac, .int .i64 da] 47)) a2 r.conds ∧ From w1.heap.size (w2.alloc (.cells #[.slice a1 n1 c1, .slice a2 n2 c2, .int .i64 ac, .int .i64 da] 47)) a1 ∧ From w1.heap.size (w2.alloc (.cells #[.slice a1 n1 c1, .slice a2 n2 c2, .int .i64 ac, .int .i64 da] 47)) a2 ∧ w1.heap.size < (w2.alloc (.cells #[.slice a1 n1 c1, .slice a2 n2 c2, .int .i64 ac, .int .i64 da] 47)).heap.size) :=
    ⟨hc2.alloc _, (ext_newC HE.out (by omega) hg2).alloc _, (r1.grown hg2 (ne_some (by omega))).alloc _, (t1.grown hg2 (ne_some (by omega))).alloc _, x2, hn.kept (fun b o e => (Ext.one w2 _).block b (hf1 b o none e).2) (by simp), hc.kept (fun b o e => (Ext.one w2 _).block b (hf2 b o none e).2) (by simp), hf1.size (by simp), hf2.size (by simp), by simp; omega⟩
  clear hrb hrs hac hda e1 e2 hn hc hf1 hf2 hc2 hg2 r1 t1 HE HC1 x2 hol ol
  go_wp2_with fail
  generalize w2.alloc (.cells #[.slice a1 n1 c1, .slice a2 n2 c2, .int .i64 ac, .int .i64 da] 47) = W5 at *
  refine' wp_region_looset_tail 3 2 (.inl _ :: .inl _ :: .inr (fun v W => ∃ (arch num : Int) (ws : List (Int × Int)) (ca : Option Addr) (m1 cc : Nat), callB arch num ws = true ∧ v = .agg #[.int .i64 arch, .int .i64 num, .slice ca m1 cc] ∧ m1 = ws.length ∧ Wides W ca ws ∧ ∀ b off, ca = some ⟨b, off, none⟩ → w1.heap.size < b) :: []) (fun b W => Cur W (w.heap.size + 1 + 1) a len cap ∧ Ext w W ∧ Blk W w.heap.size [.slice none 0 0, .slice none 0 0, .int .i64 0, .int .i64 0] 47 ∧ Blk W (w.heap.size + 1) [.int .i64 0, .int .i64 0, .slice none 0 0] 30 ∧ Blk W w2.heap.size [.slice a1 n1 c1, .slice a2 n2 c2, .int .i64 ac, .int .i64 da] 47 ∧ Nums W a1 r.nums ∧ Conds W a2 r.conds ∧ From w1.heap.size W a1 ∧ From w1.heap.size W a2 ∧ w1.heap.size < W.heap.size) (fun j W W' => j ≠ 2 → W.grownBy W' none) (by kernel_rfl) (by kernel_rfl) (⟨H2.out.1, H2.out.2.1.drew, H2.out.2.2.1, H2.out.2.2.2.1, H2.out.2.2.2.2.1, H2.out.2.2.2.2.2.1.kept (w' := W5.drew) (fun _ _ _ => rfl) (Nat.le_refl _), H2.out.2.2.2.2.2.2.1.kept (w' := W5.drew) (fun _ _ _ => rfl) (Nat.le_refl _), H2.out.2.2.2.2.2.2.2.1.size (w' := W5.drew) (Nat.le_refl _), H2.out.2.2.2.2.2.2.2.2.1.size (w' := W5.drew) (Nat.le_refl _), H2.out.2.2.2.2.2.2.2.2.2⟩) (by decide) (fun h => by cases h) ?hAx ?hlx ?hMx
  case' hMx => skip
  simp only [List.take_succ_cons, List.take_zero, List.drop_succ_cons, List.drop_zero]
  apply wpLooseT_val rfl rfl (by decide)
  case hs =>
    intro b1 w1 hC hd Q1 hQ1
    dsimp only [bare]
    obtain ⟨q0, q1, q2, q3⟩ := (⟨hC.2.2.2.2.1.cell 0 _ rfl, hC.2.2.2.2.1.cell 1 _ rfl, hC.2.2.2.2.1.cell 2 _ rfl, hC.2.2.2.2.1.cell 3 _ rfl⟩ : _ ∧ _ ∧ _ ∧ _)
    clear hd
    have HCC : Hid _ := hC
    clear hC
    go_wp2
    exact ⟨HCC.out, fun _ => grown_refl _ _⟩
  case ha => rfl
  apply wpLooseT_val rfl rfl (by decide)
  case hs =>
    intro b1 w1 hC hd Q1 hQ1
    dsimp only [bare]
    obtain ⟨q0, q1, q2, q3⟩ := (⟨hC.2.2.2.2.1.cell 0 _ rfl, hC.2.2.2.2.1.cell 1 _ rfl, hC.2.2.2.2.1.cell 2 _ rfl, hC.2.2.2.2.1.cell 3 _ rfl⟩ : _ ∧ _ ∧ _ ∧ _)
    clear hd
    have HCC : Hid _ := hC
    clear hC
    go_wp2
    exact ⟨HCC.out, fun _ => grown_refl _ _⟩
  case ha => rfl
  refine wpLooseT_spec rfl rfl (by decide) ?_ (fun vx_2 => ?_)
  · intro w1 hC hd Q1 hQ1
    dsimp only [bare]
    clear hd
    have HCC : Hid _ := hC
    have HQ : Hid _ := hQ1
    clear hC hQ1
    go_wp2_with fail
    refine (call_any (w.heap.size + 1 + 1) a len cap _ HCC.out.1).mono ?_
    rintro e w7 ⟨arch, num, ws, v, hcb, rfl, ⟨av, cv, rfl, hcv, hw, hf, hz⟩, hc7, hg7⟩
    go_wp2_with fail
    obtain ⟨h1, h2, h3, h4, h5, h6, h6b, h6c, h6d, h7⟩ := HCC.out
    exact HQ.out _ _ ⟨⟨hc7, ext_newC h2 (by omega) hg7, h3.grown hg7 (ne_some (by omega)), h4.grown hg7 (ne_some (by omega)), h5.grown hg7 (ne_some (by omega)), h6.kept (fun b o e => hg7.block b (h6c b o none e).2 (ne_some (by have := (h6c b o none e).1; omega))) hg7.size, h6b.kept (fun b o e => hg7.block b (h6d b o none e).2 (ne_some (by have := (h6d b o none e).1; omega))) hg7.size, h6c.size hg7.size, h6d.size hg7.size, Nat.lt_of_lt_of_le h7 hg7.size⟩, fun h => absurd rfl h, arch, num, ws, av, ws.length, cv, hcb, rfl, rfl, hw, fun b off e => by have := hf b off e; omega⟩
  refine wpLooseT_nil ?_
  intro wx hCx hFx
  obtain ⟨h1, h2, h3, h4, h5, h6, h6b, h6c, h6d, h7⟩ := hCx
  obtain ⟨arch, num, ws, ca, m1, cc, hcb, rfl, hm1, hw, hf⟩ := (hFx 2 _ rfl (by decide) (by simp [Act.put]) : ∃ (arch num : Int) (ws : List (Int × Int)) (ca : Option Addr) (m1 cc : Nat), callB arch num ws = true ∧ vx_2 = .agg #[.int .i64 arch, .int .i64 num, .slice ca m1 cc] ∧ m1 = ws.length ∧ Wides wx ca ws ∧ ∀ b off, ca = some ⟨b, off, none⟩ → w1.heap.size < b)
  have HF : Hid (callB arch num ws = true ∧ m1 = ws.length ∧ RuleN w1.heap.size wx r [.slice a1 n1 c1, .slice a2 n2 c2, .int .i64 r.act, .int .i64 r.data] ∧ Wides wx ca ws ∧ (∀ b off, ca = some ⟨b, off, none⟩ → w1.heap.size < b) ∧ Ext w wx) := ⟨hcb, hm1, ⟨a1, n1, c1, a2, n2, c2, rfl, HI.out.2.2.2.2.1, HI.out.2.2.2.2.2, h6, h6b, h6c, h6d⟩, hw, hf, h2⟩
  obtain ⟨q0, q1, q2, q3, t0, t1, t2⟩ := (⟨h3.cell 0 _ rfl, h3.cell 1 _ rfl, h3.cell 2 _ rfl, h3.cell 3 _ rfl, h4.cell 0 _ rfl, h4.cell 1 _ rfl, h4.cell 2 _ rfl⟩ : _ ∧ _ ∧ _ ∧ _ ∧ _ ∧ _ ∧ _)
  have f1 := h3.free
  have f2 := h4.free
  have hlt := h4.lt
  clear h1 h2 h3 h4 h5 h6 h6b h6c h6d h7 hcb hm1 hw hf hFx H2
  go_wp2
  refine bodyPost_ret (v := .tuple #[.agg #[.slice a1 n1 c1, .slice a2 n2 c2, .int .i64 ac, .int .i64 da], .agg #[.int .i64 arch, .int .i64 num, .slice ca m1 cc]]) (by simp [results, Tryd.results11, go_sem, *]) rfl ⟨a1, n1, c1, a2, n2, c2, ac, da, arch, num, ca, m1, cc, rfl, ?_, ⟨ws, HF.out.1, HF.out.2.1, ?_⟩, ?_⟩
  · have hr := (((((((HF.out.2.2.1.set (k := w.heap.size) (by omega) 0 (.slice a1 n1 c1)).set (k := w.heap.size) (by omega) 1 (.slice a2 n2 c2)).set (k := w.heap.size) (by omega) 2 (.int .i64 ac)).set (k := w.heap.size) (by omega) 3 (.int .i64 da)).set (k := w.heap.size + 1) (by omega) 0 (.int .i64 arch)).set (k := w.heap.size + 1) (by omega) 1 (.int .i64 num)).set (k := w.heap.size + 1) (by omega) 2 (.slice ca m1 cc))
    obtain ⟨_, _, _, _, _, _, e0, e1, e2, hn, hc, _, _⟩ := hr
    simp only [List.cons.injEq, Value.slice.injEq, and_true] at e0
    obtain ⟨⟨rfl, rfl, rfl⟩, ⟨rfl, rfl, rfl⟩⟩ := e0
    exact ⟨r, HI.out.1, HI.out.2.1, HI.out.2.2.1, HI.out.2.2.2.1, HI.out.2.2.2.2.1, HI.out.2.2.2.2.2, hn, hc⟩
  · exact ((((((HF.out.2.2.2.1.far (fun b off e => by have := HF.out.2.2.2.2.1 b off e; omega) _ _).far (fun b off e => by have := HF.out.2.2.2.2.1 b off e; omega) _ _).far (fun b off e => by have := HF.out.2.2.2.2.1 b off e; omega) _ _).far (fun b off e => by have := HF.out.2.2.2.2.1 b off e; omega) _ _).far (fun b off e => by have := HF.out.2.2.2.2.1 b off e; omega) _ _).far (fun b off e => by have := HF.out.2.2.2.2.1 b off e; omega) _ _).far (fun b off e => by have := HF.out.2.2.2.2.1 b off e; omega) _ _
  · exact ((((((HF.out.2.2.2.2.2.set (by omega) _ _).set (by omega) _ _).set (by omega) _ _).set (by omega) _ _).set (by omega) _ _).set (by omega) _ _).set (by omega) _ _
  case hAx => kernel_rfl
  case hlx => exact ⟨trivial, trivial, fun i hi v W W' ⟨arch, num, ws, ca, m1, cc, e1, e2, e3, e4, e5⟩ hT => ⟨arch, num, ws, ca, m1, cc, e1, e2, e3, e4.below (ext_ofNone (hT hi)) (Nat.le_refl _), e5⟩, trivial⟩

theorem res_cc (fn : Func) (hf : fn.results = #[ResultVar.cell 2 27, ResultVar.cell 3 30]) (Wf : World) (b1 b2 : Nat) (t0 t1 : Value) (ts : List Value) (ag mh ml cm vh vl arch num : Int) (ca : Option Addr) (m1 cc : Nat)
    (h1 : Blk Wf b1 [.int .i64 ag, .int .i64 mh, .int .i64 ml, .int .i64 cm, .int .i64 vh, .int .i64 vl] 27) (h2 : Blk Wf b2 [.int .i64 arch, .int .i64 num, .slice ca m1 cc] 30) :
    (results fn (t0 :: t1 :: .pointer (some ⟨b1, 0, none⟩) :: .pointer (some ⟨b2, 0, none⟩) :: ts).toArray).run Tryd.prog Wf = .ok (.tuple #[.agg #[.int .i64 ag, .int .i64 mh, .int .i64 ml, .int .i64 cm, .int .i64 vh, .int .i64 vl], .agg #[.int .i64 arch, .int .i64 num, .slice ca m1 cc]]) Wf := by
  obtain ⟨q0, q1, q2, q3, q4, q5⟩ := (⟨h1.cell 0 _ rfl, h1.cell 1 _ rfl, h1.cell 2 _ rfl, h1.cell 3 _ rfl, h1.cell 4 _ rfl, h1.cell 5 _ rfl⟩ : _ ∧ _ ∧ _ ∧ _ ∧ _ ∧ _)
  obtain ⟨t0, t1, t2⟩ := (⟨h2.cell 0 _ rfl, h2.cell 1 _ rfl, h2.cell 2 _ rfl⟩ : _ ∧ _ ∧ _)
  simp [results, go_sem, *]

theorem Blk.drew {W : World} {k : Nat} {l : List Value} {t : TypeId} (h : Blk W k l t) : Blk W.drew k l t := h

theorem Wides.drew {W : World} {a : Option Addr} {ws : List (Int × Int)} (h : Wides W a ws) : Wides W.drew a ws := h

/-- Nine stores into the two results. -/
def ninth (W : World) (k : Nat) (ag mh ml cm vh vl arch num : Int) (cs : Value) : World :=
  ((((((((W.setCell ⟨k, 0, none⟩ (.int .i64 ag)).setCell ⟨k, 1, none⟩ (.int .i64 mh)).setCell ⟨k, 2, none⟩ (.int .i64 ml)).setCell ⟨k, 3, none⟩ (.int .i64 cm)).setCell ⟨k, 4, none⟩ (.int .i64 vh)).setCell ⟨k, 5, none⟩ (.int .i64 vl)).setCell ⟨k + 1, 0, none⟩ (.int .i64 arch)).setCell ⟨k + 1, 1, none⟩ (.int .i64 num)).setCell ⟨k + 1, 2, none⟩ cs

theorem ninth_one {W : World} {k : Nat} {ag mh ml cm vh vl arch num : Int} {cs : Value} (h : Blk W k [.int .i64 0, .int .i64 0, .int .i64 0, .int .i64 0, .int .i64 0, .int .i64 0] 27) : Blk (ninth W k ag mh ml cm vh vl arch num cs) k [.int .i64 ag, .int .i64 mh, .int .i64 ml, .int .i64 cm, .int .i64 vh, .int .i64 vl] 27 :=
  ((((((((h.set 0 _).set 1 _).set 2 _).set 3 _).set 4 _).set 5 _).other (by omega) _ _).other (by omega) _ _).other (by omega) _ _

theorem ninth_two {W : World} {k : Nat} {ag mh ml cm vh vl arch num : Int} {cs : Value} (h : Blk W (k + 1) [.int .i64 0, .int .i64 0, .slice none 0 0] 30) : Blk (ninth W k ag mh ml cm vh vl arch num cs) (k + 1) [.int .i64 arch, .int .i64 num, cs] 30 :=
  (((((((((h.other (by omega) _ _).other (by omega) _ _).other (by omega) _ _).other (by omega) _ _).other (by omega) _ _).other (by omega) _ _).set 0 _).set 1 _).set 2 _)

theorem ninth_wides {W : World} {k : Nat} {ag mh ml cm vh vl arch num : Int} {cs : Value} {a : Option Addr} {ws : List (Int × Int)} (h : Wides W a ws) (hk : ∀ b off, a = some ⟨b, off, none⟩ → k + 1 < b) : Wides (ninth W k ag mh ml cm vh vl arch num cs) a ws :=
  have k0 : ∀ b off, a = some ⟨b, off, none⟩ → k ≠ b := fun b off e => by have := hk b off e; omega
  have k1 : ∀ b off, a = some ⟨b, off, none⟩ → k + 1 ≠ b := fun b off e => by have := hk b off e; omega
  ((((((((h.far k0 _ _).far k0 _ _).far k0 _ _).far k0 _ _).far k0 _ _).far k0 _ _).far k1 _ _).far k1 _ _).far k1 _ _

theorem ninth_ext {w W : World} {k : Nat} {ag mh ml cm vh vl arch num : Int} {cs : Value} (h : Ext w W) (hk : w.heap.size ≤ k) : Ext w (ninth W k ag mh ml cm vh vl arch num cs) :=
  have k1 : w.heap.size ≤ k + 1 := by omega
  ((((((((h.set hk _ _).set hk _ _).set hk _ _).set hk _ _).set hk _ _).set hk _ _).set k1 _ _).set k1 _ _).set k1 _ _

set_option maxRecDepth 100000 in
set_option maxHeartbeats 4000000 in
theorem drawCond_any (a : Option Addr) (len cap : Nat) (w : World) (hC : Came w a len) :
    Calls Tryd.prog 7 #[.slice a len cap] w fun e w' => ∃ (ag mh ml cm vh vl arch num : Int) (ca : Option Addr) (m1 cc : Nat), e = .returned (.tuple #[.agg #[.int .i64 ag, .int .i64 mh, .int .i64 ml, .int .i64 cm, .int .i64 vh, .int .i64 vl], .agg #[.int .i64 arch, .int .i64 num, .slice ca m1 cc]]) ∧ condB ⟨ag, mh, ml, cm, vh, vl⟩ = true ∧ CallR w' arch num ca m1 ∧ Ext w w' := by
  have HC : Hid (Came w a len) := hC
  clear hC
  go_enter Tryd.func7, Tryd.ntmps7
  go_wp2_with fail
  refine (new_any a len cap _ (HC.out.below ((Ext.one _ _).alloc _))).mono ?_
  rintro e w1 ⟨rfl, hc1, hb1⟩
  have r1 := ((Blk.new w [.int .i64 0, .int .i64 0, .int .i64 0, .int .i64 0, .int .i64 0, .int .i64 0] 27).alloc (.cells #[.int .i64 0, .int .i64 0, .slice none 0 0] 30)).ext hb1
  have t1 : Blk w1 (w.heap.size + 1) [.int .i64 0, .int .i64 0, .slice none 0 0] 30 := (Blk.newAt (w.alloc (.cells #[.int .i64 0, .int .i64 0, .int .i64 0, .int .i64 0, .int .i64 0, .int .i64 0] 27)) [.int .i64 0, .int .i64 0, .slice none 0 0] 30 (w.heap.size + 1) (by simp)).ext hb1
  have HE : Hid (Ext w w1) := ((Ext.one _ _).alloc _).trans hb1
  have hs1 : w.heap.size + 1 + 1 < w1.heap.size := by have := hc1.lt; simpa using this
  have HC1 : Hid (Cur w1 (w.heap.size + 1 + 1) a len cap) := by simpa [Hid] using hc1
  clear hc1 hb1
  go_wp2_with fail
  refine (cond_any (w.heap.size + 1 + 1) a len cap _ HC1.out).mono ?_
  rintro e w2 ⟨ag, mh, ml, cm, vh, vl, hcb, rfl, hc2, hg2⟩
  have HCB : Hid (condB ⟨ag, mh, ml, cm, vh, vl⟩ = true) := hcb
  have hs2 : w1.heap.size ≤ w2.heap.size := hg2.size
  have H2 : Hid (Cur (w2.alloc (.cells #[.int .i64 ag, .int .i64 mh, .int .i64 ml, .int .i64 cm, .int .i64 vh, .int .i64 vl] 27)) (w.heap.size + 1 + 1) a len cap ∧ Ext w (w2.alloc (.cells #[.int .i64 ag, .int .i64 mh, .int .i64 ml, .int .i64 cm, .int .i64 vh, .int .i64 vl] 27)) ∧ Blk (w2.alloc (.cells #[.int .i64 ag, .int .i64 mh, .int .i64 ml, .int .i64 cm, .int .i64 vh, .int .i64 vl] 27)) w.heap.size [.int .i64 0, .int .i64 0, .int .i64 0, .int .i64 0, .int .i64 0, .int .i64 0] 27 ∧ Blk (w2.alloc (.cells #[.int .i64 ag, .int .i64 mh, .int .i64 ml, .int .i64 cm, .int .i64 vh, .int .i64 vl] 27)) (w.heap.size + 1) [.int .i64 0, .int .i64 0, .slice none 0 0] 30 ∧ Blk (w2.alloc (.cells #[.int .i64 ag, .int .i64 mh, .int .i64 ml, .int .i64 cm, .int .i64 vh, .int .i64 vl] 27)) w2.heap.size [.int .i64 ag, .int .i64 mh, .int .i64 ml, .int .i64 cm, .int .i64 vh, .int .i64 vl] 27) :=
    ⟨hc2.alloc _, (ext_newC HE.out (by omega) hg2).alloc _, (r1.grown hg2 (ne_some (by omega))).alloc _, (t1.grown hg2 (ne_some (by omega))).alloc _, Blk.new w2 [.int .i64 ag, .int .i64 mh, .int .i64 ml, .int .i64 cm, .int .i64 vh, .int .i64 vl] 27⟩
  clear hcb hc2 hg2 r1 t1 HE HC1
  go_wp2_with fail
  refine (call_any (w.heap.size + 1 + 1) a len cap _ H2.out.1).mono ?_
  rintro e w3 ⟨arch, num, ws, v, hcb, rfl, ⟨ca, cc, rfl, hcv, hw, hf, hz⟩, hc3, hg3⟩
  have h3 : ws.length = 3 := callB_three hcb
  have hf3 : ∀ b off, ca = some ⟨b, off, none⟩ → w2.heap.size < b := fun b off e => by have := hf b off e; simp at this; omega
  have hs3 : w2.heap.size < w3.heap.size := by have := hg3.size; simp at this; omega
  have HI : Hid (callB arch num ws = true ∧ ws.length = 3 ∧ ∀ b off, ca = some ⟨b, off, none⟩ → w2.heap.size < b) := ⟨hcb, h3, hf3⟩
  rw [h3]
  obtain ⟨oc, hoc⟩ : ∃ oc, oc = Obj.cells #[.int .i64 arch, .int .i64 num, .slice ca 3 cc] 30 (0, 0) := ⟨_, rfl⟩
  have H3 : Hid (Cur (w3.alloc (.cells #[.int .i64 arch, .int .i64 num, .slice ca 3 cc] 30)) (w.heap.size + 1 + 1) a len cap ∧ Ext w (w3.alloc (.cells #[.int .i64 arch, .int .i64 num, .slice ca 3 cc] 30)) ∧ Blk (w3.alloc (.cells #[.int .i64 arch, .int .i64 num, .slice ca 3 cc] 30)) w.heap.size [.int .i64 0, .int .i64 0, .int .i64 0, .int .i64 0, .int .i64 0, .int .i64 0] 27 ∧ Blk (w3.alloc (.cells #[.int .i64 arch, .int .i64 num, .slice ca 3 cc] 30)) (w.heap.size + 1) [.int .i64 0, .int .i64 0, .slice none 0 0] 30 ∧ Blk (w3.alloc (.cells #[.int .i64 arch, .int .i64 num, .slice ca 3 cc] 30)) w2.heap.size [.int .i64 ag, .int .i64 mh, .int .i64 ml, .int .i64 cm, .int .i64 vh, .int .i64 vl] 27 ∧ Blk (w3.alloc (.cells #[.int .i64 arch, .int .i64 num, .slice ca 3 cc] 30)) w3.heap.size [.int .i64 arch, .int .i64 num, .slice ca 3 cc] 30 ∧ Wides (w3.alloc (.cells #[.int .i64 arch, .int .i64 num, .slice ca 3 cc] 30)) ca ws) :=
    ⟨hc3.alloc _, (ext_newC H2.out.2.1 (by omega) hg3).alloc _, (H2.out.2.2.1.grown hg3 (ne_some (by omega))).alloc _, (H2.out.2.2.2.1.grown hg3 (ne_some (by omega))).alloc _, (H2.out.2.2.2.2.grown hg3 (ne_some (by omega))).alloc _, Blk.new w3 _ 30, hw.below (Ext.one _ _) (Nat.le_refl _)⟩
  clear hcb hcv hw hf hz hc3 hg3 h3 hf3 H2 hoc oc
  go_wp2_with fail
  generalize w3.alloc (.cells #[.int .i64 arch, .int .i64 num, .slice ca 3 cc] 30) = W5 at *
  refine (once_any 3 (w.heap.size + 1 + 1) a len cap _ H3.out.1 (by omega)).mono ?_
  rintro e w6 ⟨tb, rfl, hc6, hg6⟩
  have H6 : Hid (Ext w w6 ∧ Blk w6 w.heap.size [.int .i64 0, .int .i64 0, .int .i64 0, .int .i64 0, .int .i64 0, .int .i64 0] 27 ∧ Blk w6 (w.heap.size + 1) [.int .i64 0, .int .i64 0, .slice none 0 0] 30 ∧ Blk w6 w2.heap.size [.int .i64 ag, .int .i64 mh, .int .i64 ml, .int .i64 cm, .int .i64 vh, .int .i64 vl] 27 ∧ Blk w6 w3.heap.size [.int .i64 arch, .int .i64 num, .slice ca 3 cc] 30 ∧ Wides w6 ca ws) := by
    obtain ⟨h1, h2, h3, h4, h5, h6, h7⟩ := H3.out
    exact ⟨ext_newC h2 (by omega) hg6, h3.grown hg6 (ne_some (by omega)), h4.grown hg6 (ne_some (by omega)), h5.grown hg6 (ne_some (by omega)), h6.grown hg6 (ne_some (by omega)), wides_keptC h7 hg6 (fun b off e => ne_some (by have := HI.out.2.2 b off e; omega))⟩
  clear hc6 hg6 H3
  go_upto_if 14 with fail
  go_cut [] from 15 to 24 (fun W => ∃ xh xl : Int, wideB (xh, xl) = true ∧ Ext w W ∧ Blk W w.heap.size [.int .i64 0, .int .i64 0, .int .i64 0, .int .i64 0, .int .i64 0, .int .i64 0] 27 ∧ Blk W (w.heap.size + 1) [.int .i64 0, .int .i64 0, .slice none 0 0] 30 ∧ Blk W w2.heap.size [.int .i64 ag, .int .i64 mh, .int .i64 ml, .int .i64 cm, .int .i64 xh, .int .i64 xl] 27 ∧ Blk W w3.heap.size [.int .i64 arch, .int .i64 num, .slice ca 3 cc] 30 ∧ Wides W ca ws)
  case first =>
    have hv : wideB (vh, vl) = true ∧ wideB (mh, ml) = true := by
      have := HCB.out
      simp only [condB, Bool.and_eq_true] at this
      exact ⟨this.2, this.1.2⟩
    cases tb
    · go_wp2
      go_meet
      case rel =>
        obtain ⟨h1, h2, h3, h4, h5, h6⟩ := H6.out
        exact ⟨vh, vl, hv.1, h1, h2, h3, h4, h5, h6⟩
    · obtain ⟨a0, a2, m1, m6⟩ := condB_parts HCB.out
      simp only at a0 a2 m1 m6
      clear m1 m6
      obtain ⟨k, rfl⟩ : ∃ k : Nat, ag = k := ⟨ag.toNat, by omega⟩
      obtain ⟨p, hp⟩ : ∃ p, p = ws.getD k (0, 0) := ⟨_, rfl⟩
      obtain ⟨x, y⟩ := p
      have hk3 : k < ws.length := by have := HI.out.2.1; omega
      obtain ⟨b, off, hca, p2⟩ := H6.out.2.2.2.2.2.pair (k := k) hk3 hp
      have hxy : wideB (x, y) = true := by
        have h := HI.out.1
        simp only [callB, Bool.and_eq_true, List.all_eq_true] at h
        rw [hp, List.getD_eq_getElem?_getD, List.getElem?_eq_getElem hk3]
        exact h.2 _ (List.getElem_mem hk3)
      obtain ⟨z, hz⟩ : ∃ z, z = andW (x, y) (mh, ml) := ⟨_, rfl⟩
      have HA : Hid (∀ W : World, Calls Tryd.prog 32 #[.agg #[.int .i64 x, .int .i64 y], .agg #[.int .i64 mh, .int .i64 ml]] W fun e w' => e = .returned (.agg #[.int .i64 z.1, .int .i64 z.2]) ∧ Below W.heap.size W w') := fun W => by rw [hz]; exact sAnd_any x y mh ml W
      have HZ : Hid (wideB z = true) := by unfold Hid; rw [hz]; exact andW_wide hxy hv.2
      have bk : (k : Int) < 3 := by omega
      clear hz hxy hv hk3 hp a0 a2
      obtain ⟨z1, z2⟩ := z
      subst hca
      go_wp2_with fail
      refine' wp_region_loose_tail 10 (.inl _ :: .inl _ :: .inl _ :: .inl _ :: .inl _ :: .inl _ :: .inl _ :: .inl _ :: .inl _ :: .inl _ :: []) (fun w' => Blk w' w2.heap.size [.int .i64 (k : Int), .int .i64 mh, .int .i64 ml, .int .i64 cm, .int .i64 vh, .int .i64 vl] 27 ∧ Blk w' w3.heap.size [.int .i64 arch, .int .i64 num, .slice (some ⟨b, off, none⟩) 3 cc] 30 ∧ Pair w' b (off + k * 2) x y) (by kernel_rfl) (by kernel_rfl) (⟨H6.out.2.2.2.1, H6.out.2.2.2.2.1, p2⟩) (fun _ _ h hE => ⟨h.1.ext hE, h.2.1.ext hE, h.2.2.step hE⟩) ?hAa ?hla ?hMa
      case' hMa => skip
      simp only [List.take_succ_cons, List.take_zero, List.drop_succ_cons, List.drop_zero]
      apply wpLoose_val rfl rfl
      case hs =>
        intro w1 hC hd Q1 hQ1
        obtain ⟨hE, hS⟩ := hC
        dsimp only [bare]
        obtain ⟨q1, q2, q3, q4, ⟨_, q5, q6⟩⟩ := (⟨hS.1.cell 0 _ rfl, hS.1.cell 1 _ rfl, hS.1.cell 2 _ rfl, hS.2.1.cell 2 _ rfl, hS.2.2⟩ : _ ∧ _ ∧ _ ∧ _ ∧ _)
        clear hd hE
        try clear hS
        go_wp2
        exact Ext.refl _
      case ha => rfl
      apply wpLoose_val rfl rfl
      case hs =>
        intro w1 hC hd Q1 hQ1
        obtain ⟨hE, hS⟩ := hC
        dsimp only [bare]
        obtain ⟨q1, q2, q3, q4, ⟨_, q5, q6⟩⟩ := (⟨hS.1.cell 0 _ rfl, hS.1.cell 1 _ rfl, hS.1.cell 2 _ rfl, hS.2.1.cell 2 _ rfl, hS.2.2⟩ : _ ∧ _ ∧ _ ∧ _ ∧ _)
        clear hd hE
        try clear hS
        go_wp2
        exact Ext.refl _
      case ha => rfl
      apply wpLoose_val rfl rfl
      case hs =>
        intro w1 hC hd Q1 hQ1
        obtain ⟨hE, hS⟩ := hC
        dsimp only [bare]
        obtain ⟨q1, q2, q3, q4, ⟨_, q5, q6⟩⟩ := (⟨hS.1.cell 0 _ rfl, hS.1.cell 1 _ rfl, hS.1.cell 2 _ rfl, hS.2.1.cell 2 _ rfl, hS.2.2⟩ : _ ∧ _ ∧ _ ∧ _ ∧ _)
        clear hd hE
        try clear hS
        go_wp2
        exact Ext.refl _
      case ha => rfl
      apply wpLoose_val rfl rfl
      case hs =>
        intro w1 hC hd Q1 hQ1
        obtain ⟨hE, hS⟩ := hC
        dsimp only [bare]
        obtain ⟨q1, q2, q3, q4, ⟨_, q5, q6⟩⟩ := (⟨hS.1.cell 0 _ rfl, hS.1.cell 1 _ rfl, hS.1.cell 2 _ rfl, hS.2.1.cell 2 _ rfl, hS.2.2⟩ : _ ∧ _ ∧ _ ∧ _ ∧ _)
        clear hd hE
        try clear hS
        go_wp2
        exact Ext.refl _
      case ha => rfl
      apply wpLoose_val rfl rfl
      case hs =>
        intro w1 hC hd Q1 hQ1
        obtain ⟨hE, hS⟩ := hC
        dsimp only [bare]
        obtain ⟨q1, q2, q3, q4, ⟨_, q5, q6⟩⟩ := (⟨hS.1.cell 0 _ rfl, hS.1.cell 1 _ rfl, hS.1.cell 2 _ rfl, hS.2.1.cell 2 _ rfl, hS.2.2⟩ : _ ∧ _ ∧ _ ∧ _ ∧ _)
        clear hd hE
        try clear hS
        go_wp2
        exact Ext.refl _
      case ha => rfl
      apply wpLoose_val rfl rfl
      case hs =>
        intro w1 hC hd Q1 hQ1
        obtain ⟨hE, hS⟩ := hC
        dsimp only [bare]
        obtain ⟨q1, q2, q3, q4, ⟨_, q5, q6⟩⟩ := (⟨hS.1.cell 0 _ rfl, hS.1.cell 1 _ rfl, hS.1.cell 2 _ rfl, hS.2.1.cell 2 _ rfl, hS.2.2⟩ : _ ∧ _ ∧ _ ∧ _ ∧ _)
        clear hd hE
        try clear hS
        go_wp2
        exact Ext.refl _
      case ha => rfl
      apply wpLoose_val rfl rfl
      case hs =>
        intro w1 hC hd Q1 hQ1
        obtain ⟨hE, hS⟩ := hC
        dsimp only [bare]
        obtain ⟨q1, q2, q3, q4, ⟨_, q5, q6⟩⟩ := (⟨hS.1.cell 0 _ rfl, hS.1.cell 1 _ rfl, hS.1.cell 2 _ rfl, hS.2.1.cell 2 _ rfl, hS.2.2⟩ : _ ∧ _ ∧ _ ∧ _ ∧ _)
        clear hd hE
        try clear hS
        go_wp2
        exact Ext.refl _
      case ha => rfl
      apply wpLoose_val rfl rfl
      case hs =>
        intro w1 hC hd Q1 hQ1
        obtain ⟨hE, hS⟩ := hC
        dsimp only [bare]
        obtain ⟨q1, q2, q3, q4, ⟨_, q5, q6⟩⟩ := (⟨hS.1.cell 0 _ rfl, hS.1.cell 1 _ rfl, hS.1.cell 2 _ rfl, hS.2.1.cell 2 _ rfl, hS.2.2⟩ : _ ∧ _ ∧ _ ∧ _ ∧ _)
        clear hd hE
        try clear hS
        go_wp2
        exact Ext.refl _
      case ha => rfl
      apply wpLoose_val rfl rfl
      case hs =>
        intro w1 hC hd Q1 hQ1
        obtain ⟨hE, hS⟩ := hC
        dsimp only [bare]
        clear hd
        go_wp2_with fail
        refine (HA.out _).mono ?_
        rintro e w2 ⟨rfl, hb⟩
        go_wp2_with fail
        exact hb
      case ha => rfl
      apply wpLoose_val rfl rfl
      case hs =>
        intro w1 hC hd Q1 hQ1
        obtain ⟨hE, hS⟩ := hC
        dsimp only [bare]
        obtain ⟨q1, q2, q3, q4, ⟨_, q5, q6⟩⟩ := (⟨hS.1.cell 0 _ rfl, hS.1.cell 1 _ rfl, hS.1.cell 2 _ rfl, hS.2.1.cell 2 _ rfl, hS.2.2⟩ : _ ∧ _ ∧ _ ∧ _ ∧ _)
        clear hd hE
        try clear hS
        go_wp2
        exact Ext.refl _
      case ha => rfl
      refine wpLoose_nil ?_
      intro wa hEa hSa hFa
      have HN : Hid (Blk wa w2.heap.size [.int .i64 (k : Int), .int .i64 mh, .int .i64 ml, .int .i64 cm, .int .i64 vh, .int .i64 vl] 27) := hSa.1
      obtain ⟨q0, q1, q2, q3, q4, q5⟩ := (⟨hSa.1.cell 0 _ rfl, hSa.1.cell 1 _ rfl, hSa.1.cell 2 _ rfl, hSa.1.cell 3 _ rfl, hSa.1.cell 4 _ rfl, hSa.1.cell 5 _ rfl⟩ : _ ∧ _ ∧ _ ∧ _ ∧ _ ∧ _)
      have fX := hSa.1.free
      have HEa : Hid (Ext w6 wa) := (Ext.refl w6).drew.trans hEa
      clear hEa hSa hFa p2
      try simp only [Act.put]
      go_wp2
      go_meet
      case rel =>
        obtain ⟨h1, h2, h3, h4, h5, h6⟩ := H6.out
        exact ⟨z1, z2, HZ.out, ((h1.trans HEa.out).set (by omega) _ _).set (by omega) _ _, ((h2.ext HEa.out).other (by omega) _ _).other (by omega) _ _, ((h3.ext HEa.out).other (by omega) _ _).other (by omega) _ _, (HN.out.set 4 _).set 5 _, ((h5.ext HEa.out).other (by omega) _ _).other (by omega) _ _, ((h6.below HEa.out (Nat.le_refl _)).far (fun b off e => by have := HI.out.2.2 b off e; omega) _ _).far (fun b off e => by have := HI.out.2.2 b off e; omega) _ _⟩
      case hAa => kernel_rfl
      case hla => exact ⟨trivial, trivial, trivial, trivial, trivial, trivial, trivial, trivial, trivial, trivial, trivial⟩
  case rest =>
    obtain ⟨xh, xl, hx, hE, h2, h3, h4, h5, h6⟩ := hcut
    have HF : Hid (wideB (xh, xl) = true ∧ Ext w wc ∧ Wides wc ca ws) := ⟨hx, hE, h6⟩
    have HR : Hid (Blk wc w.heap.size [.int .i64 0, .int .i64 0, .int .i64 0, .int .i64 0, .int .i64 0, .int .i64 0] 27 ∧ Blk wc (w.heap.size + 1) [.int .i64 0, .int .i64 0, .slice none 0 0] 30) := ⟨h2, h3⟩
    obtain ⟨q0, q1, q2, q3, q4, q5⟩ := (⟨h2.cell 0 _ rfl, h2.cell 1 _ rfl, h2.cell 2 _ rfl, h2.cell 3 _ rfl, h2.cell 4 _ rfl, h2.cell 5 _ rfl⟩ : _ ∧ _ ∧ _ ∧ _ ∧ _ ∧ _)
    obtain ⟨s0, s1, s2, s3, s4, s5⟩ := (⟨h4.cell 0 _ rfl, h4.cell 1 _ rfl, h4.cell 2 _ rfl, h4.cell 3 _ rfl, h4.cell 4 _ rfl, h4.cell 5 _ rfl⟩ : _ ∧ _ ∧ _ ∧ _ ∧ _ ∧ _)
    obtain ⟨t0, t1, t2, u0, u1, u2⟩ := (⟨h3.cell 0 _ rfl, h3.cell 1 _ rfl, h3.cell 2 _ rfl, h5.cell 0 _ rfl, h5.cell 1 _ rfl, h5.cell 2 _ rfl⟩ : _ ∧ _ ∧ _ ∧ _ ∧ _ ∧ _)
    have f1 := h2.free
    have f2 := h3.free
    have l1 := h2.lt
    have l2 := h3.lt
    clear hx hE h2 h3 h4 h5 h6 H6
    go_wp2_with fail
    go_region
    go_wp2
    refine bodyPost_ret (res_cc Tryd.f7 Tryd.results7 (ninth wc w.heap.size ag mh ml cm xh xl arch num (.slice ca 3 cc)).drew _ _ _ _ _ ag mh ml cm xh xl arch num ca 3 cc (ninth_one HR.out.1).drew (ninth_two HR.out.2).drew) rfl ⟨ag, mh, ml, cm, xh, xl, arch, num, ca, 3, cc, rfl, ?_, ⟨ws, HI.out.1, HI.out.2.1.symm, ?_⟩, ?_⟩
    · have := HCB.out
      simp only [condB, Bool.and_eq_true] at this ⊢
      exact ⟨this.1, HF.out.1⟩
    · exact (ninth_wides (k := w.heap.size) (W := wc) (ag := ag) (mh := mh) (ml := ml) (cm := cm) (vh := xh) (vl := xl) (arch := arch) (num := num) (cs := .slice ca 3 cc) HF.out.2.2 (fun b off e => by have := HI.out.2.2 b off e; omega)).drew
    · exact (ninth_ext (k := w.heap.size) (W := wc) (ag := ag) (mh := mh) (ml := ml) (cm := cm) (vh := xh) (vl := xl) (arch := arch) (num := num) (cs := .slice ca 3 cc) HF.out.2.1 (Nat.le_refl _)).drew

end Go.Proofs.YthflflhcbnianaaDoor
