/- What spec's l09Any answers: a policy, right or not, in memory of its own. -/
import Derived.Test.YtoknlaaghjlnaaaDrawCopy
namespace Go.Proofs.Ytoknlaaghjlnaaa
open Go.RowKit
set_option linter.unusedVariables false

theorem grown_ext {W W' : World} (h : Ext W W') (row : Option Nat) : W.grownBy W' row := ⟨h.os, h.tape, h.output, h.size, fun k hk _ => h.block k hk⟩

theorem own_form9 {w : World} {base e size : Nat} {v : Value} {n : Nat} {xs : List Value} (h : w.ownsRow base e size v n xs) : ∃ a c, v = .slice a n c := by
  rcases h.2 with ⟨hv, h0⟩ | ⟨g, c, cur, hv, _⟩
  · exact ⟨none, 0, by rw [hv, h0]⟩
  · exact ⟨_, c, hv⟩

theorem AllSmall.push {ps : List (RN × List Value)} (h : AllSmall ps) {r : RN} {l : List Value} (hr : Small r) : AllSmall (ps ++ [(r, l)]) := fun q hq => by
  rcases List.mem_append.1 hq with hq | hq
  · exact h q hq
  · simp at hq; rw [hq]; exact hr

theorem own_rules2 {φ : Nat → Prop} {w : World} {base n : Nat} {v : Value} {ps : List (RN × List Value)} (h : w.ownsRow base 37 4 v n (flatR ps)) (hn : ps.length = n) (hr : RowR φ w ps) (hφ : ∀ b, base ≤ b → v.ownBlock = some b → φ b) : ∃ a cap, v = .slice a n cap ∧ RulesP φ w a (rulesOf ps) := by
  rcases h.2 with ⟨rfl, h0⟩ | ⟨g, cap, cur, rfl, hg, hh, hnc, hcp, hcs, htake⟩
  · subst h0
    refine ⟨none, 0, rfl, ⟨fun b o s e => (by cases e), fun hp => ?_⟩⟩
    simp [rulesOf] at hp
    rw [List.length_eq_zero_iff.1 hn] at hp
    exact absurd hp (by simp)
  · have hlt := (Array.getElem?_eq_some_iff.1 hh).1
    refine ⟨some ⟨g, 0, none⟩, cap, rfl, fun b o s e => by injection e with e; injection e with e1 e2 e3; subst e1; exact ⟨hφ _ hg rfl, hlt⟩, fun hp => ⟨g, 0, rfl, fun j hj => ?_⟩⟩
    have hj' : j < ps.length := by simpa [rulesOf] using hj
    have hq := hr (ps[j]) (List.getElem_mem hj')
    refine ⟨(ps[j]).2, fun i u hu => ?_, by rw [rulesOf_at ps j hj']; exact hq⟩
    have hi : i < 4 := by have h3 := (List.getElem?_eq_some_iff.1 hu).1; have := hq.four; omega
    have e1 := flatR_at ps j i u hj' (fun q hq => (hr q hq).four) hu
    rw [← htake, List.getElem?_take, if_pos (by omega)] at e1
    rw [Nat.zero_add, cell_of_row w g _ cur 37 _ hh]
    simpa using e1

theorem own_rules2S {φ : Nat → Prop} {w : World} {base n c : Nat} {a : Option Addr} {ps : List (RN × List Value)} (h : w.ownsRow base 37 4 (.slice a n c) n (flatR ps)) (hn : ps.length = n) (hr : RowR φ w ps) (hφ : ∀ b, base ≤ b → (Value.slice a n c).ownBlock = some b → φ b) : RulesP φ w a (rulesOf ps) := by
  obtain ⟨a', c', e, h1⟩ := own_rules2 h hn hr hφ
  injection e with e1 e2 e3
  subst e1
  exact h1

/-- Some rules of the slice's, all their memory from block B on. -/
def PolM (B : Nat) (w : World) (a : Option Addr) (n : Nat) : Prop := ∃ rs : List RN, n = rs.length ∧ SmallR rs ∧ RulesP (fun b => B ≤ b) w a rs

theorem PolM.mk {B : Nat} {φ : Nat → Prop} {w : World} {a : Option Addr} {n : Nat} {ps : List (RN × List Value)} (hn : ps.length = n) (hl : n ≤ 1048576) (hs : AllSmall ps) (h : RulesP φ w a (rulesOf ps)) (hφ : ∀ b, φ b → B ≤ b) : PolM B w a n :=
  ⟨rulesOf ps, by simp [rulesOf, hn], AllR.small hs (by omega), h.imp fun b hb _ => hφ b hb⟩

theorem RulesP.alloc {φ : Nat → Prop} {w : World} {a : Option Addr} {rs : List RN} (h : RulesP φ w a rs) (o : Obj) : RulesP φ (w.alloc o) a rs := h.kept (fun b _ hl => Below.heap_alloc _ _ _ hl) (by simp)

theorem RowR.alloc {φ : Nat → Prop} {w : World} {ps : List (RN × List Value)} (h : RowR φ w ps) (o : Obj) : RowR φ (w.alloc o) ps := h.kept (fun b _ hl => Below.heap_alloc _ _ _ hl) (by simp)

/-- Rules of noughts. -/
def zeroR (n : Nat) : List (RN × List Value) := List.replicate n (r0, [.slice none 0 0, .slice none 0 0, .int .i64 0, .int .i64 0])

theorem made_zeroR10 : (madeCells #[.slice none 0 0, .slice none 0 0, .int .i64 0, .int .i64 0] 40).toList = flatR (zeroR 10) := by
  simp [madeCells, flatR, zeroR, List.replicate, List.range, List.range.loop]

theorem made_zeroR11 : (madeCells #[.slice none 0 0, .slice none 0 0, .int .i64 0, .int .i64 0] 44).toList = flatR (zeroR 11) := by
  simp [madeCells, flatR, zeroR, List.replicate, List.range, List.range.loop]

theorem zeroR_row (φ : Nat → Prop) (w : World) (n : Nat) : RowR φ w (zeroR n) := fun q hq => by
  have e := (List.mem_replicate.1 hq).2
  subst e
  exact ⟨none, 0, 0, none, 0, 0, rfl, rfl, rfl, fun hp => absurd hp (by simp [r0]), fun hp => absurd hp (by simp [r0]), fun b o s e => (by cases e), fun b o s e => (by cases e)⟩

theorem zeroR_small (n : Nat) : AllSmall (zeroR n) := fun q hq => by
  have e := (List.mem_replicate.1 hq).2
  subst e
  exact ⟨by simp [r0], by simp [r0]⟩

set_option maxRecDepth 100000 in
set_option maxHeartbeats 6400000 in
theorem any9_any (p : Nat) (a : Option Addr) (len cap : Nat) (w : World) (hC : Cur w p a len cap) :
    Calls Try.prog 47 #[.pointer (some ⟨p, 0, none⟩)] w fun e w' => ∃ (ar ac da : Int) (a1 : Option Addr) (n1 c1 : Nat), e = .returned (.agg #[.int .i64 ar, .int .i64 ac, .int .i64 da, .slice a1 n1 c1]) ∧ PolM w.heap.size w' a1 n1 ∧ Cur w' p a len cap ∧ w.grownBy w' (some p) := by
  obtain ⟨i0, hi, hz0, hz1, hz2⟩ := info_parts Try.infoRu
  have hp := hC.lt
  have HC : Hid (Cur w p a len cap) := hC
  clear hC
  go_enter Try.func47, Try.ntmps47
  go_wp2_with fail
  refine (below_any 12 p a len cap _ (HC.out.alloc _) (by omega)).mono ?_
  rintro e w1 ⟨k, hk, _, _, rfl, hc1, hg1⟩
  have hk12 := hk (by omega)
  have r1 := (Blk.new w [.int .i64 0, .int .i64 0, .int .i64 0, .slice none 0 0] 26).grownP hg1 (by omega)
  have HG1 : Hid (w.grownBy w1 (some p)) := grown_trans (grown_alloc (grown_refl w _) _) hg1
  have HC1 : Hid (Cur w1 p a len cap) := hc1
  clear hg1 hc1 hk
  go_wp2_with fail
  refine (below_any 60 p a len cap _ HC1.out (by omega)).mono ?_
  rintro e w2 ⟨y, hy, _, _, rfl, hc2, hg2⟩
  have hy60 := hy (by omega)
  have r2 := r1.grownP hg2 (by omega)
  have HG2 : Hid (w.grownBy w2 (some p)) := grown_trans HG1.out hg2
  have HC2 : Hid (Cur w2 p a len cap) := hc2
  have hs2 := r2.lt
  clear hg2 hc2 hy r1 HG1 HC1
  go_wp2_with fail
  refine (policy_any p a len cap _ HC2.out).mono ?_
  rintro e w3 ⟨pol, a1, n1, c1, ac, da, hpb, hps, rfl, hp1, hp2, hp3, hp4, hrp, hc3, hg3⟩
  have r3 := r2.grownP hg3 (by omega)
  have HG3 : Hid (w.grownBy w3 (some p)) := grown_trans HG2.out hg3
  have HC3 : Hid (Cur w3 p a len cap) := hc3
  have hs3 := r3.lt
  have HRP : Hid (SmallR pol.rules ∧ Rules w3 a1 pol.rules ∧ n1 = pol.rules.length) := ⟨hps, hrp.rules, hp4⟩
  have hn10 : n1 ≤ 10 := by
    have := hpb
    unfold policyB at this
    simp only [Bool.and_eq_true, decide_eq_true_eq] at this
    omega
  clear hg3 hc3 r2 HG2 HC2 hpb hps hp1 hp2 hp3 hp4 hrp
  go_wp2_with fail
  refine (copy_any 62 ac da a1 n1 c1 pol.rules _ HRP.out.2.2 HRP.out.1 HRP.out.2.1).mono ?_
  rintro e w4 ⟨aR, nR, cR, ps, rfl, hlen, hnn, hsm, hown, hrow, x4⟩
  have g4 := grown_trans HG3.out (grown_ext x4 (some p))
  have c4 : Cur w4 p a len cap := HC3.out.kept (grown_ext x4 none) (by simp) (fun _ _ _ _ => by simp)
  have hs4 : w3.heap.size ≤ w4.heap.size := x4.size
  have hp4 := c4.lt
  have hp3 := HC3.out.lt
  have r4 := r3.ext x4
  obtain ⟨s0, s1, s2, s3⟩ := (⟨r4.cell 0 _ rfl, r4.cell 1 _ rfl, r4.cell 2 _ rfl, r4.cell 3 _ rfl⟩ : _ ∧ _ ∧ _ ∧ _)
  have fR := r4.free
  have hRX : w.heap.size < w3.heap.size := by omega
  have hRX4 : w.heap.size < w4.heap.size := by omega
  have hR4 : Hid (Blk w4 w.heap.size [.int .i64 0, .int .i64 0, .int .i64 0, .slice none 0 0] 26) := r4
  have HF : Hid (ps.length = nR ∧ AllSmall ps ∧ RulesP (fun b => w3.heap.size ≤ b) w4 aR (rulesOf ps)) := ⟨hlen, hsm, own_rules2S hown hlen (hrow.imp (fun b hb _ => hb.1)) (fun b hb _ => hb)⟩
  have HCG : Hid (Cur w4 p a len cap ∧ w.grownBy w4 (some p)) := ⟨c4, g4⟩
  have HOW : Hid (w4.ownsRow w3.heap.size 37 4 (.slice aR nR cR) nR (flatR ps) ∧ RowR (fun b => w3.heap.size ≤ b ∧ some b ≠ (Value.slice aR nR cR).ownBlock) w4 ps) := ⟨hown, hrow⟩
  have hnR : nR ≤ 10 := by omega
  clear hlen hnn hsm hown hrow x4 g4 c4 r3 HG3 HC3 HRP r4
  by_cases k0 : (k : Int) = 0
  · have e0 : ((k : Int) == 0) = true := by simpa using k0
    clear k0
    have hy3 : (y : Int) % 3 = 0 ∨ (y : Int) % 3 = 1 ∨ (y : Int) % 3 = 2 := by omega
    rcases hy3 with hy3 | hy3 | hy3
    · go_wp2
      refine bodyPost_ret (v := .agg #[.int .i64 (-1), .int .i64 ac, .int .i64 da, .slice aR nR cR]) (by simp [results, Try.results47, go_sem, *]) rfl ⟨_, _, _, _, _, _, rfl, ?_, ?_, ?_⟩
      · exact PolM.mk HF.out.1 (by omega) HF.out.2.1 ((((((HF.out.2.2.set (fun b hb => by have := hb; omega) _ _).set (fun b hb => by have := hb; omega) _ _).set (fun b hb => by have := hb; omega) _ _).set (fun b hb => by have := hb; omega) _ _).alloc _).alloc _) (fun b hb => by have := hb; omega)
      · exact (((((HCG.out.1.store HC.out (by omega) _ _).store HC.out (by omega) _ _).store HC.out (by omega) _ _).store HC.out (by omega) _ _).alloc _).alloc _
      · exact grown_alloc (grown_alloc (grown_store (grown_store (grown_store (grown_store HCG.out.2 (by omega) _ _) (by omega) _ _) (by omega) _ _) (by omega) _ _) _) _
    · go_wp2
      refine bodyPost_ret (v := .agg #[.int .i64 4294967296, .int .i64 ac, .int .i64 da, .slice aR nR cR]) (by simp [results, Try.results47, go_sem, *]) rfl ⟨_, _, _, _, _, _, rfl, ?_, ?_, ?_⟩
      · exact PolM.mk HF.out.1 (by omega) HF.out.2.1 ((((((HF.out.2.2.set (fun b hb => by have := hb; omega) _ _).set (fun b hb => by have := hb; omega) _ _).set (fun b hb => by have := hb; omega) _ _).set (fun b hb => by have := hb; omega) _ _).alloc _).alloc _) (fun b hb => by have := hb; omega)
      · exact (((((HCG.out.1.store HC.out (by omega) _ _).store HC.out (by omega) _ _).store HC.out (by omega) _ _).store HC.out (by omega) _ _).alloc _).alloc _
      · exact grown_alloc (grown_alloc (grown_store (grown_store (grown_store (grown_store HCG.out.2 (by omega) _ _) (by omega) _ _) (by omega) _ _) (by omega) _ _) _) _
    · go_wp2
      refine bodyPost_ret (v := .agg #[.int .i64 0, .int .i64 ac, .int .i64 da, .slice aR nR cR]) (by simp [results, Try.results47, go_sem, *]) rfl ⟨_, _, _, _, _, _, rfl, ?_, ?_, ?_⟩
      · exact PolM.mk HF.out.1 (by omega) HF.out.2.1 ((((((HF.out.2.2.set (fun b hb => by have := hb; omega) _ _).set (fun b hb => by have := hb; omega) _ _).set (fun b hb => by have := hb; omega) _ _).set (fun b hb => by have := hb; omega) _ _).alloc _).alloc _) (fun b hb => by have := hb; omega)
      · exact (((((HCG.out.1.store HC.out (by omega) _ _).store HC.out (by omega) _ _).store HC.out (by omega) _ _).store HC.out (by omega) _ _).alloc _).alloc _
      · exact grown_alloc (grown_alloc (grown_store (grown_store (grown_store (grown_store HCG.out.2 (by omega) _ _) (by omega) _ _) (by omega) _ _) (by omega) _ _) _) _
  have e0 : ((k : Int) == 0) = false := by simpa using k0
  by_cases k1 : (k : Int) = 1
  · have e1 : ((k : Int) == 1) = true := by simpa using k1
    clear k0 k1
    go_wp2
    refine bodyPost_ret (v := .agg #[.int .i64 62, .int .i64 ((y : Int) % 8), .int .i64 da, .slice aR nR cR]) (by simp [results, Try.results47, go_sem, *]) rfl ⟨_, _, _, _, _, _, rfl, ?_, ?_, ?_⟩
    · exact PolM.mk HF.out.1 (by omega) HF.out.2.1 (((((HF.out.2.2.set (fun b hb => by have := hb; omega) _ _).set (fun b hb => by have := hb; omega) _ _).set (fun b hb => by have := hb; omega) _ _).set (fun b hb => by have := hb; omega) _ _).alloc _) (fun b hb => by have := hb; omega)
    · exact ((((HCG.out.1.store HC.out (by omega) _ _).store HC.out (by omega) _ _).store HC.out (by omega) _ _).store HC.out (by omega) _ _).alloc _
    · exact grown_alloc (grown_store (grown_store (grown_store (grown_store HCG.out.2 (by omega) _ _) (by omega) _ _) (by omega) _ _) (by omega) _ _) _
  have e1 : ((k : Int) == 1) = false := by simpa using k1
  by_cases k2 : (k : Int) = 2
  · have e2 : ((k : Int) == 2) = true := by simpa using k2
    clear k0 k1 k2
    obtain ⟨W7, hW7⟩ : ∃ W7, W7 = (((w4.alloc (.cells #[.int .i64 62, .int .i64 ac, .int .i64 da, .slice aR nR cR] 26)).alloc (.cells #[.int .i64 3, .int .i64 2] 3)).alloc (.cells #[.slice (some ⟨w4.heap.size + 1, 0, none⟩) 2 2, .slice none 0 0, .int .i64 0, .int .i64 0] 37)) := ⟨_, rfl⟩
    have x7 : Blk W7 w4.heap.size [.int .i64 62, .int .i64 ac, .int .i64 da, .slice aR nR cR] 26 := by rw [hW7]; exact ((Blk.new w4 _ _).alloc _).alloc _
    have r7 : Blk W7 w.heap.size [.int .i64 0, .int .i64 0, .int .i64 0, .slice none 0 0] 26 := by rw [hW7]; exact ((hR4.out.alloc _).alloc _).alloc _
    have l7 : Blk W7 (w4.heap.size + 1) [.int .i64 3, .int .i64 2] 3 := by rw [hW7]; exact (Blk.newAt _ _ _ _ (by simp)).alloc _
    have t7 : Blk W7 (w4.heap.size + 1 + 1) [.slice (some ⟨w4.heap.size + 1, 0, none⟩) 2 2, .slice none 0 0, .int .i64 0, .int .i64 0] 37 := by rw [hW7]; exact Blk.newAt _ _ _ _ (by simp)
    have o7 : W7.ownsRow w3.heap.size 37 4 (.slice aR nR cR) nR (flatR ps) := by rw [hW7]; exact own_below (own_below (own_below HOW.out.1 (Ext.one _ _)) (Ext.one _ _)) (Ext.one _ _)
    have w7 : RowR (fun b => (w3.heap.size ≤ b ∧ some b ≠ (Value.slice aR nR cR).ownBlock) ∧ b < w4.heap.size) W7 ps := by
      rw [hW7]
      exact (((HOW.out.2.imp (ψ := fun b => (w3.heap.size ≤ b ∧ some b ≠ (Value.slice aR nR cR).ownBlock) ∧ b < w4.heap.size) (fun b hb hl => ⟨hb, hl⟩)).alloc _).alloc _).alloc _
    have c7 : Cur W7 p a len cap := by rw [hW7]; exact ((HCG.out.1.alloc _).alloc _).alloc _
    have g7 : w.grownBy W7 (some p) := by rw [hW7]; exact grown_alloc (grown_alloc (grown_alloc HCG.out.2 _) _) _
    have hsz7 : W7.heap.size = w4.heap.size + 1 + 1 + 1 := by rw [hW7]; simp
    have H7 : Hid (Blk W7 w4.heap.size [.int .i64 62, .int .i64 ac, .int .i64 da, .slice aR nR cR] 26 ∧ Blk W7 w.heap.size [.int .i64 0, .int .i64 0, .int .i64 0, .slice none 0 0] 26 ∧ Blk W7 (w4.heap.size + 1) [.int .i64 3, .int .i64 2] 3 ∧ Blk W7 (w4.heap.size + 1 + 1) [.slice (some ⟨w4.heap.size + 1, 0, none⟩) 2 2, .slice none 0 0, .int .i64 0, .int .i64 0] 37 ∧ W7.ownsRow w3.heap.size 37 4 (.slice aR nR cR) nR (flatR ps) ∧ RowR (fun b => (w3.heap.size ≤ b ∧ some b ≠ (Value.slice aR nR cR).ownBlock) ∧ b < w4.heap.size) W7 ps ∧ Cur W7 p a len cap ∧ w.grownBy W7 (some p) ∧ W7.heap.size = w4.heap.size + 1 + 1 + 1) := ⟨x7, r7, l7, t7, o7, w7, c7, g7, hsz7⟩
    have HW7 : Hid (W7 = (((w4.alloc (.cells #[.int .i64 62, .int .i64 ac, .int .i64 da, .slice aR nR cR] 26)).alloc (.cells #[.int .i64 3, .int .i64 2] 3)).alloc (.cells #[.slice (some ⟨w4.heap.size + 1, 0, none⟩) 2 2, .slice none 0 0, .int .i64 0, .int .i64 0] 37))) := hW7
    have HV : Hid (∀ x, (Value.slice aR nR cR).ownBlock = some x → w3.heap.size ≤ x ∧ x < w4.heap.size) := fun x hx => own_lt9 HOW.out.1 hx
    have hs34 : w3.heap.size ≤ w4.heap.size := hs4
    clear hW7 x7 r7 l7 t7 o7 w7 c7 g7 hsz7
    go_wp2_with (at_builtin; rw [← HW7.out]; refine wpList_append_lies _ rfl _ _ 24 rfl w3.heap.size 37 i0 (.agg #[.slice none 0 0, .slice none 0 0, .int .i64 0, .int .i64 0]) 4 64 Try.underlying24 hi hz0 hz1 hz2 rfl (by decide) _ _ _ rfl H7.out.2.2.2.2.1 ⟨w4.heap.size + 1 + 1, 0, none⟩ 1 1 [.slice (some ⟨w4.heap.size + 1, 0, none⟩) 2 2, .slice none 0 0, .int .i64 0, .int .i64 0] rfl rfl ?c1 ?c2 (by omega) ?c3 ?c4 ?c5 (w4.heap.size + 1 + 1 + 1) H7.out.2.2.2.2.2.2.2.2 ?_)
    case c1 => exact fun j u hu => by rw [Addr.add_lit, Nat.zero_add]; exact H7.out.2.2.2.1.cell j u hu
    case c2 => simp [Value.oneCell']
    case c3 => unfold maxLen; omega
    case c4 => omega
    case c5 => have := H7.out.2.2.2.2.2.2.2.2; omega
    intro g cap9 w9 hown9 hgrow9 hat9 hlt9
    obtain ⟨x7, r7, l7, _, _, w7, c7, g7, hsz7⟩ := H7.out
    have gB : ∀ m, m < w3.heap.size → some m ≠ (Value.slice aR nR cR).ownBlock := fun m hm e => by have := (HV.out m e.symm).1; omega
    have gY : ∀ m, w4.heap.size ≤ m → some m ≠ (Value.slice aR nR cR).ownBlock := fun m hm e => by have := (HV.out m e.symm).2; omega
    have x9 := x7.grown hgrow9 (gY _ (Nat.le_refl _))
    have r9 := r7.grown hgrow9 (gB _ (by omega))
    have l9 := l7.grown hgrow9 (gY _ (by omega))
    have c9 : Cur w9 p a len cap := c7.kept hgrow9 (fun e => gB p (by omega) e.symm) (fun b off e hl => fun e2 => gB b (by have := HC.out.code b off e hl; omega) e2.symm)
    have g9 : w.grownBy w9 (some p) := grown_own g7 hgrow9 (fun x hx => by have := (HV.out x hx).1; omega)
    have hs9 : w4.heap.size + 1 + 1 + 1 ≤ w9.heap.size := by have := hgrow9.size; omega
    have hold : RowR (fun b => w3.heap.size ≤ b ∧ b ≠ w4.heap.size) w9 ps := (w7.grown hgrow9 (fun b hb _ => hb.1.2)).imp (fun b hb _ => ⟨hb.1.1, by have := hb.2; omega⟩)
    have hnew : RuleP (fun b => w3.heap.size ≤ b ∧ b ≠ w4.heap.size) w9 (⟨[3, 2], [], 0, 0⟩ : RN) [.slice (some ⟨w4.heap.size + 1, 0, none⟩) 2 2, .slice none 0 0, .int .i64 0, .int .i64 0] := ⟨some ⟨w4.heap.size + 1, 0, none⟩, 2, 2, none, 0, 0, rfl, rfl, rfl, fun _ => ⟨w4.heap.size + 1, 0, rfl, by omega, fun j hj => by
      have h2 : j = 0 ∨ j = 1 := by simp at hj; omega
      rcases h2 with rfl | rfl
      · exact l9.cell 0 _ rfl
      · exact l9.cell 1 _ rfl⟩, fun hp => absurd hp (by simp), fun b o s e => by injection e with e; injection e with e1 _; subst e1; exact ⟨⟨by omega, by omega⟩, by omega⟩, fun b o s e => by cases e⟩
    have hrow9 : RowR (fun b => w3.heap.size ≤ b ∧ b ≠ w4.heap.size) w9 (ps ++ [((⟨[3, 2], [], 0, 0⟩ : RN), ([.slice (some ⟨w4.heap.size + 1, 0, none⟩) 2 2, .slice none 0 0, .int .i64 0, .int .i64 0] : List Value))]) := RowR.push hold hnew
    rw [flatR_push ps (⟨[3, 2], [], 0, 0⟩ : RN)] at hown9
    have hrp9 := own_rules2S hown9 (by simp [HF.out.1]) hrow9 (fun b hb e => ⟨hb, by
      simp [Value.ownBlock] at e
      rcases hat9 with h | h
      · have := (HV.out g h).2; omega
      · omega⟩)
    have H9 : Hid ((ps ++ [((⟨[3, 2], [], 0, 0⟩ : RN), ([.slice (some ⟨w4.heap.size + 1, 0, none⟩) 2 2, .slice none 0 0, .int .i64 0, .int .i64 0] : List Value))]).length = nR + 1 ∧ AllSmall (ps ++ [((⟨[3, 2], [], 0, 0⟩ : RN), ([.slice (some ⟨w4.heap.size + 1, 0, none⟩) 2 2, .slice none 0 0, .int .i64 0, .int .i64 0] : List Value))]) ∧ RulesP (fun b => w3.heap.size ≤ b ∧ b ≠ w4.heap.size) w9 (some ⟨g, 0, none⟩) (rulesOf (ps ++ [((⟨[3, 2], [], 0, 0⟩ : RN), ([.slice (some ⟨w4.heap.size + 1, 0, none⟩) 2 2, .slice none 0 0, .int .i64 0, .int .i64 0] : List Value))])) ∧ Cur w9 p a len cap ∧ w.grownBy w9 (some p)) := ⟨by simp [HF.out.1], HF.out.2.1.push (by refine ⟨?_, ?_⟩ <;> simp), hrp9, c9, g9⟩
    clear s0 s1 s2 s3 fR
    obtain ⟨s0, s1, s2, s3, q0, q1, q2, q3⟩ := (⟨r9.cell 0 _ rfl, r9.cell 1 _ rfl, r9.cell 2 _ rfl, r9.cell 3 _ rfl, x9.cell 0 _ rfl, x9.cell 1 _ rfl, x9.cell 2 _ rfl, x9.cell 3 _ rfl⟩ : _ ∧ _ ∧ _ ∧ _ ∧ _ ∧ _ ∧ _ ∧ _)
    have fR := r9.free
    have fX := x9.free
    have hne : w.heap.size ≠ w4.heap.size := by omega
    clear hown9 hgrow9 hat9 x7 r7 l7 w7 c7 g7 hsz7 gB gY x9 r9 l9 c9 g9 hold hnew hrow9 hrp9 H7 HW7
    go_wp2
    refine bodyPost_ret (v := .agg #[.int .i64 62, .int .i64 ac, .int .i64 da, .slice (some ⟨g, 0, none⟩) (nR + 1) cap9]) (by simp [results, Try.results47, go_sem, *]) rfl ⟨_, _, _, _, _, _, rfl, ?_, ?_, ?_⟩
    · exact PolM.mk H9.out.1 (by omega) H9.out.2.1 (((((H9.out.2.2.1.set (fun b hb => hb.2) _ _).set (fun b hb => by have := hb.1; omega) _ _).set (fun b hb => by have := hb.1; omega) _ _).set (fun b hb => by have := hb.1; omega) _ _).set (fun b hb => by have := hb.1; omega) _ _) (fun b hb => by have := hb.1; omega)
    · exact ((((H9.out.2.2.2.1.store HC.out (by omega) _ _).store HC.out (by omega) _ _).store HC.out (by omega) _ _).store HC.out (by omega) _ _).store HC.out (by omega) _ _
    · exact grown_store (grown_store (grown_store (grown_store (grown_store H9.out.2.2.2.2 (by omega) _ _) (by omega) _ _) (by omega) _ _) (by omega) _ _) (by omega) _ _
  have e2 : ((k : Int) == 2) = false := by simpa using k2
  by_cases k3 : (k : Int) = 3
  · have e3 : ((k : Int) == 3) = true := by simpa using k3
    clear k0 k1 k2 k3
    obtain ⟨W7, hW7⟩ : ∃ W7, W7 = (((w4.alloc (.cells #[.int .i64 62, .int .i64 ac, .int .i64 da, .slice aR nR cR] 26)).alloc (.cells #[.int .i64 ((y : Int) % 5), .int .i64 0, .int .i64 0, .int .i64 ((y : Int) % 8), .int .i64 0, .int .i64 0] 44)).alloc (.cells #[.slice none 0 0, .slice (some ⟨w4.heap.size + 1, 0, none⟩) 1 1, .int .i64 0, .int .i64 0] 37)) := ⟨_, rfl⟩
    have x7 : Blk W7 w4.heap.size [.int .i64 62, .int .i64 ac, .int .i64 da, .slice aR nR cR] 26 := by rw [hW7]; exact ((Blk.new w4 _ _).alloc _).alloc _
    have r7 : Blk W7 w.heap.size [.int .i64 0, .int .i64 0, .int .i64 0, .slice none 0 0] 26 := by rw [hW7]; exact ((hR4.out.alloc _).alloc _).alloc _
    have l7 : Blk W7 (w4.heap.size + 1) [.int .i64 ((y : Int) % 5), .int .i64 0, .int .i64 0, .int .i64 ((y : Int) % 8), .int .i64 0, .int .i64 0] 44 := by rw [hW7]; exact (Blk.newAt _ _ _ _ (by simp)).alloc _
    have t7 : Blk W7 (w4.heap.size + 1 + 1) [.slice none 0 0, .slice (some ⟨w4.heap.size + 1, 0, none⟩) 1 1, .int .i64 0, .int .i64 0] 37 := by rw [hW7]; exact Blk.newAt _ _ _ _ (by simp)
    have o7 : W7.ownsRow w3.heap.size 37 4 (.slice aR nR cR) nR (flatR ps) := by rw [hW7]; exact own_below (own_below (own_below HOW.out.1 (Ext.one _ _)) (Ext.one _ _)) (Ext.one _ _)
    have w7 : RowR (fun b => (w3.heap.size ≤ b ∧ some b ≠ (Value.slice aR nR cR).ownBlock) ∧ b < w4.heap.size) W7 ps := by
      rw [hW7]
      exact (((HOW.out.2.imp (ψ := fun b => (w3.heap.size ≤ b ∧ some b ≠ (Value.slice aR nR cR).ownBlock) ∧ b < w4.heap.size) (fun b hb hl => ⟨hb, hl⟩)).alloc _).alloc _).alloc _
    have c7 : Cur W7 p a len cap := by rw [hW7]; exact ((HCG.out.1.alloc _).alloc _).alloc _
    have g7 : w.grownBy W7 (some p) := by rw [hW7]; exact grown_alloc (grown_alloc (grown_alloc HCG.out.2 _) _) _
    have hsz7 : W7.heap.size = w4.heap.size + 1 + 1 + 1 := by rw [hW7]; simp
    have H7 : Hid (Blk W7 w4.heap.size [.int .i64 62, .int .i64 ac, .int .i64 da, .slice aR nR cR] 26 ∧ Blk W7 w.heap.size [.int .i64 0, .int .i64 0, .int .i64 0, .slice none 0 0] 26 ∧ Blk W7 (w4.heap.size + 1) [.int .i64 ((y : Int) % 5), .int .i64 0, .int .i64 0, .int .i64 ((y : Int) % 8), .int .i64 0, .int .i64 0] 44 ∧ Blk W7 (w4.heap.size + 1 + 1) [.slice none 0 0, .slice (some ⟨w4.heap.size + 1, 0, none⟩) 1 1, .int .i64 0, .int .i64 0] 37 ∧ W7.ownsRow w3.heap.size 37 4 (.slice aR nR cR) nR (flatR ps) ∧ RowR (fun b => (w3.heap.size ≤ b ∧ some b ≠ (Value.slice aR nR cR).ownBlock) ∧ b < w4.heap.size) W7 ps ∧ Cur W7 p a len cap ∧ w.grownBy W7 (some p) ∧ W7.heap.size = w4.heap.size + 1 + 1 + 1) := ⟨x7, r7, l7, t7, o7, w7, c7, g7, hsz7⟩
    have HW7 : Hid (W7 = (((w4.alloc (.cells #[.int .i64 62, .int .i64 ac, .int .i64 da, .slice aR nR cR] 26)).alloc (.cells #[.int .i64 ((y : Int) % 5), .int .i64 0, .int .i64 0, .int .i64 ((y : Int) % 8), .int .i64 0, .int .i64 0] 44)).alloc (.cells #[.slice none 0 0, .slice (some ⟨w4.heap.size + 1, 0, none⟩) 1 1, .int .i64 0, .int .i64 0] 37))) := hW7
    have HV : Hid (∀ x, (Value.slice aR nR cR).ownBlock = some x → w3.heap.size ≤ x ∧ x < w4.heap.size) := fun x hx => own_lt9 HOW.out.1 hx
    have hs34 : w3.heap.size ≤ w4.heap.size := hs4
    clear hW7 x7 r7 l7 t7 o7 w7 c7 g7 hsz7
    go_wp2_with (at_builtin; rw [← HW7.out]; refine wpList_append_lies _ rfl _ _ 24 rfl w3.heap.size 37 i0 (.agg #[.slice none 0 0, .slice none 0 0, .int .i64 0, .int .i64 0]) 4 64 Try.underlying24 hi hz0 hz1 hz2 rfl (by decide) _ _ _ rfl H7.out.2.2.2.2.1 ⟨w4.heap.size + 1 + 1, 0, none⟩ 1 1 [.slice none 0 0, .slice (some ⟨w4.heap.size + 1, 0, none⟩) 1 1, .int .i64 0, .int .i64 0] rfl rfl ?c1 ?c2 (by omega) ?c3 ?c4 ?c5 (w4.heap.size + 1 + 1 + 1) H7.out.2.2.2.2.2.2.2.2 ?_)
    case c1 => exact fun j u hu => by rw [Addr.add_lit, Nat.zero_add]; exact H7.out.2.2.2.1.cell j u hu
    case c2 => simp [Value.oneCell']
    case c3 => unfold maxLen; omega
    case c4 => omega
    case c5 => have := H7.out.2.2.2.2.2.2.2.2; omega
    intro g cap9 w9 hown9 hgrow9 hat9 hlt9
    obtain ⟨x7, r7, l7, _, _, w7, c7, g7, hsz7⟩ := H7.out
    have gB : ∀ m, m < w3.heap.size → some m ≠ (Value.slice aR nR cR).ownBlock := fun m hm e => by have := (HV.out m e.symm).1; omega
    have gY : ∀ m, w4.heap.size ≤ m → some m ≠ (Value.slice aR nR cR).ownBlock := fun m hm e => by have := (HV.out m e.symm).2; omega
    have x9 := x7.grown hgrow9 (gY _ (Nat.le_refl _))
    have r9 := r7.grown hgrow9 (gB _ (by omega))
    have l9 := l7.grown hgrow9 (gY _ (by omega))
    have c9 : Cur w9 p a len cap := c7.kept hgrow9 (fun e => gB p (by omega) e.symm) (fun b off e hl => fun e2 => gB b (by have := HC.out.code b off e hl; omega) e2.symm)
    have g9 : w.grownBy w9 (some p) := grown_own g7 hgrow9 (fun x hx => by have := (HV.out x hx).1; omega)
    have hs9 : w4.heap.size + 1 + 1 + 1 ≤ w9.heap.size := by have := hgrow9.size; omega
    have hold : RowR (fun b => w3.heap.size ≤ b ∧ b ≠ w4.heap.size) w9 ps := (w7.grown hgrow9 (fun b hb _ => hb.1.2)).imp (fun b hb _ => ⟨hb.1.1, by have := hb.2; omega⟩)
    have hnew : RuleP (fun b => w3.heap.size ≤ b ∧ b ≠ w4.heap.size) w9 (⟨[], [⟨(y : Int) % 5, 0, 0, (y : Int) % 8, 0, 0⟩], 0, 0⟩ : RN) [.slice none 0 0, .slice (some ⟨w4.heap.size + 1, 0, none⟩) 1 1, .int .i64 0, .int .i64 0] := ⟨none, 0, 0, some ⟨w4.heap.size + 1, 0, none⟩, 1, 1, rfl, rfl, rfl, fun hp => absurd hp (by simp), fun _ => ⟨w4.heap.size + 1, 0, rfl, by omega, fun j hj => by
      have h2 : j = 0 := by simp at hj; omega
      subst h2
      intro i v hv
      rw [show 0 + 0 * 6 + i = i by omega]
      exact l9.cell i v hv⟩, fun b o s e => (by cases e), fun b o s e => by injection e with e; injection e with e1 _; subst e1; exact ⟨⟨by omega, by omega⟩, by omega⟩⟩
    have hrow9 : RowR (fun b => w3.heap.size ≤ b ∧ b ≠ w4.heap.size) w9 (ps ++ [((⟨[], [⟨(y : Int) % 5, 0, 0, (y : Int) % 8, 0, 0⟩], 0, 0⟩ : RN), ([.slice none 0 0, .slice (some ⟨w4.heap.size + 1, 0, none⟩) 1 1, .int .i64 0, .int .i64 0] : List Value))]) := RowR.push hold hnew
    rw [flatR_push ps (⟨[], [⟨(y : Int) % 5, 0, 0, (y : Int) % 8, 0, 0⟩], 0, 0⟩ : RN)] at hown9
    have hrp9 := own_rules2S hown9 (by simp [HF.out.1]) hrow9 (fun b hb e => ⟨hb, by
      simp [Value.ownBlock] at e
      rcases hat9 with h | h
      · have := (HV.out g h).2; omega
      · omega⟩)
    have H9 : Hid ((ps ++ [((⟨[], [⟨(y : Int) % 5, 0, 0, (y : Int) % 8, 0, 0⟩], 0, 0⟩ : RN), ([.slice none 0 0, .slice (some ⟨w4.heap.size + 1, 0, none⟩) 1 1, .int .i64 0, .int .i64 0] : List Value))]).length = nR + 1 ∧ AllSmall (ps ++ [((⟨[], [⟨(y : Int) % 5, 0, 0, (y : Int) % 8, 0, 0⟩], 0, 0⟩ : RN), ([.slice none 0 0, .slice (some ⟨w4.heap.size + 1, 0, none⟩) 1 1, .int .i64 0, .int .i64 0] : List Value))]) ∧ RulesP (fun b => w3.heap.size ≤ b ∧ b ≠ w4.heap.size) w9 (some ⟨g, 0, none⟩) (rulesOf (ps ++ [((⟨[], [⟨(y : Int) % 5, 0, 0, (y : Int) % 8, 0, 0⟩], 0, 0⟩ : RN), ([.slice none 0 0, .slice (some ⟨w4.heap.size + 1, 0, none⟩) 1 1, .int .i64 0, .int .i64 0] : List Value))])) ∧ Cur w9 p a len cap ∧ w.grownBy w9 (some p)) := ⟨by simp [HF.out.1], HF.out.2.1.push (by refine ⟨?_, ?_⟩ <;> simp), hrp9, c9, g9⟩
    clear s0 s1 s2 s3 fR
    obtain ⟨s0, s1, s2, s3, q0, q1, q2, q3⟩ := (⟨r9.cell 0 _ rfl, r9.cell 1 _ rfl, r9.cell 2 _ rfl, r9.cell 3 _ rfl, x9.cell 0 _ rfl, x9.cell 1 _ rfl, x9.cell 2 _ rfl, x9.cell 3 _ rfl⟩ : _ ∧ _ ∧ _ ∧ _ ∧ _ ∧ _ ∧ _ ∧ _)
    have fR := r9.free
    have fX := x9.free
    have hne : w.heap.size ≠ w4.heap.size := by omega
    clear hown9 hgrow9 hat9 x7 r7 l7 w7 c7 g7 hsz7 gB gY x9 r9 l9 c9 g9 hold hnew hrow9 hrp9 H7 HW7
    go_wp2
    refine bodyPost_ret (v := .agg #[.int .i64 62, .int .i64 ac, .int .i64 da, .slice (some ⟨g, 0, none⟩) (nR + 1) cap9]) (by simp [results, Try.results47, go_sem, *]) rfl ⟨_, _, _, _, _, _, rfl, ?_, ?_, ?_⟩
    · exact PolM.mk H9.out.1 (by omega) H9.out.2.1 (((((H9.out.2.2.1.set (fun b hb => hb.2) _ _).set (fun b hb => by have := hb.1; omega) _ _).set (fun b hb => by have := hb.1; omega) _ _).set (fun b hb => by have := hb.1; omega) _ _).set (fun b hb => by have := hb.1; omega) _ _) (fun b hb => by have := hb.1; omega)
    · exact ((((H9.out.2.2.2.1.store HC.out (by omega) _ _).store HC.out (by omega) _ _).store HC.out (by omega) _ _).store HC.out (by omega) _ _).store HC.out (by omega) _ _
    · exact grown_store (grown_store (grown_store (grown_store (grown_store H9.out.2.2.2.2 (by omega) _ _) (by omega) _ _) (by omega) _ _) (by omega) _ _) (by omega) _ _
  have e3 : ((k : Int) == 3) = false := by simpa using k3
  by_cases k4 : (k : Int) = 4
  · have e4 : ((k : Int) == 4) = true := by simpa using k4
    clear k0 k1 k2 k3 k4
    have hy2 : (y : Int) % 2 = 0 ∨ (y : Int) % 2 = 1 := by omega
    rcases hy2 with hy2 | hy2
    · go_wp2_with (at_make; refine wpList_make_full _ rfl _ _ 24 rfl w4.heap.size 37 i0 (.agg #[.slice none 0 0, .slice none 0 0, .int .i64 0, .int .i64 0]) 4 Try.underlying24 hi hz0 hz1 _ _ _ _ 10 rfl rfl (by omega) (by omega) (by rw [hz2]; omega) (by unfold maxLen; omega) (by simp) ?_)
      intro w0 hown0 hgrow0
      have o0 : w0.ownsRow w4.heap.size 37 4 (.slice (some ⟨w4.heap.size + 1, 0, none⟩) 10 10) 10 (flatR (zeroR 10)) := by rw [← made_zeroR10]; exact hown0
      have x9 := (Blk.new w4 [.int .i64 62, .int .i64 ac, .int .i64 da, .slice aR nR cR] 26).grown hgrow0 (by simp)
      have r9 := (hR4.out.alloc (.cells #[.int .i64 62, .int .i64 ac, .int .i64 da, .slice aR nR cR] 26)).grown hgrow0 (by simp)
      have c9 : Cur w0 p a len cap := (HCG.out.1.alloc _).kept hgrow0 (by simp) (fun _ _ _ _ => by simp)
      have g9 : w.grownBy w0 (some p) := grown_own (grown_alloc HCG.out.2 _) hgrow0 (fun x hx => by cases hx)
      have hs9 : w4.heap.size + 1 ≤ w0.heap.size := by have := hgrow0.size; simpa using this
      have hrp9 := own_rules2S o0 (by simp [zeroR]) (zeroR_row (fun b => w3.heap.size ≤ b ∧ b ≠ w4.heap.size) w0 10) (fun b hb e => ⟨by omega, by simp [Value.ownBlock] at e; omega⟩)
      have H9 : Hid ((zeroR 10).length = 10 ∧ AllSmall (zeroR 10) ∧ RulesP (fun b => w3.heap.size ≤ b ∧ b ≠ w4.heap.size) w0 (some ⟨w4.heap.size + 1, 0, none⟩) (rulesOf (zeroR 10)) ∧ Cur w0 p a len cap ∧ w.grownBy w0 (some p)) := ⟨by simp [zeroR], zeroR_small 10, hrp9, c9, g9⟩
      clear s0 s1 s2 s3 fR
      obtain ⟨s0, s1, s2, s3, q0, q1, q2, q3⟩ := (⟨r9.cell 0 _ rfl, r9.cell 1 _ rfl, r9.cell 2 _ rfl, r9.cell 3 _ rfl, x9.cell 0 _ rfl, x9.cell 1 _ rfl, x9.cell 2 _ rfl, x9.cell 3 _ rfl⟩ : _ ∧ _ ∧ _ ∧ _ ∧ _ ∧ _ ∧ _ ∧ _)
      have fR := r9.free
      have fX := x9.free
      have hne : w.heap.size ≠ w4.heap.size := by omega
      clear hown0 hgrow0 o0 x9 r9 c9 g9 hrp9
      go_wp2
      refine bodyPost_ret (v := .agg #[.int .i64 62, .int .i64 ac, .int .i64 da, .slice (some ⟨w4.heap.size + 1, 0, none⟩) 10 10]) (by simp [results, Try.results47, go_sem, *]) rfl ⟨_, _, _, _, _, _, rfl, ?_, ?_, ?_⟩
      · exact PolM.mk H9.out.1 (by omega) H9.out.2.1 (((((H9.out.2.2.1.set (fun b hb => hb.2) _ _).set (fun b hb => by have := hb.1; omega) _ _).set (fun b hb => by have := hb.1; omega) _ _).set (fun b hb => by have := hb.1; omega) _ _).set (fun b hb => by have := hb.1; omega) _ _) (fun b hb => by have := hb.1; omega)
      · exact ((((H9.out.2.2.2.1.store HC.out (by omega) _ _).store HC.out (by omega) _ _).store HC.out (by omega) _ _).store HC.out (by omega) _ _).store HC.out (by omega) _ _
      · exact grown_store (grown_store (grown_store (grown_store (grown_store H9.out.2.2.2.2 (by omega) _ _) (by omega) _ _) (by omega) _ _) (by omega) _ _) (by omega) _ _
    · go_wp2_with (at_make; refine wpList_make_full _ rfl _ _ 24 rfl w4.heap.size 37 i0 (.agg #[.slice none 0 0, .slice none 0 0, .int .i64 0, .int .i64 0]) 4 Try.underlying24 hi hz0 hz1 _ _ _ _ 11 rfl rfl (by omega) (by omega) (by rw [hz2]; omega) (by unfold maxLen; omega) (by simp) ?_)
      intro w0 hown0 hgrow0
      have o0 : w0.ownsRow w4.heap.size 37 4 (.slice (some ⟨w4.heap.size + 1, 0, none⟩) 11 11) 11 (flatR (zeroR 11)) := by rw [← made_zeroR11]; exact hown0
      have x9 := (Blk.new w4 [.int .i64 62, .int .i64 ac, .int .i64 da, .slice aR nR cR] 26).grown hgrow0 (by simp)
      have r9 := (hR4.out.alloc (.cells #[.int .i64 62, .int .i64 ac, .int .i64 da, .slice aR nR cR] 26)).grown hgrow0 (by simp)
      have c9 : Cur w0 p a len cap := (HCG.out.1.alloc _).kept hgrow0 (by simp) (fun _ _ _ _ => by simp)
      have g9 : w.grownBy w0 (some p) := grown_own (grown_alloc HCG.out.2 _) hgrow0 (fun x hx => by cases hx)
      have hs9 : w4.heap.size + 1 ≤ w0.heap.size := by have := hgrow0.size; simpa using this
      have hrp9 := own_rules2S o0 (by simp [zeroR]) (zeroR_row (fun b => w3.heap.size ≤ b ∧ b ≠ w4.heap.size) w0 11) (fun b hb e => ⟨by omega, by simp [Value.ownBlock] at e; omega⟩)
      have H9 : Hid ((zeroR 11).length = 11 ∧ AllSmall (zeroR 11) ∧ RulesP (fun b => w3.heap.size ≤ b ∧ b ≠ w4.heap.size) w0 (some ⟨w4.heap.size + 1, 0, none⟩) (rulesOf (zeroR 11)) ∧ Cur w0 p a len cap ∧ w.grownBy w0 (some p)) := ⟨by simp [zeroR], zeroR_small 11, hrp9, c9, g9⟩
      clear s0 s1 s2 s3 fR
      obtain ⟨s0, s1, s2, s3, q0, q1, q2, q3⟩ := (⟨r9.cell 0 _ rfl, r9.cell 1 _ rfl, r9.cell 2 _ rfl, r9.cell 3 _ rfl, x9.cell 0 _ rfl, x9.cell 1 _ rfl, x9.cell 2 _ rfl, x9.cell 3 _ rfl⟩ : _ ∧ _ ∧ _ ∧ _ ∧ _ ∧ _ ∧ _ ∧ _)
      have fR := r9.free
      have fX := x9.free
      have hne : w.heap.size ≠ w4.heap.size := by omega
      clear hown0 hgrow0 o0 x9 r9 c9 g9 hrp9
      go_wp2
      refine bodyPost_ret (v := .agg #[.int .i64 62, .int .i64 ac, .int .i64 da, .slice (some ⟨w4.heap.size + 1, 0, none⟩) 11 11]) (by simp [results, Try.results47, go_sem, *]) rfl ⟨_, _, _, _, _, _, rfl, ?_, ?_, ?_⟩
      · exact PolM.mk H9.out.1 (by omega) H9.out.2.1 (((((H9.out.2.2.1.set (fun b hb => hb.2) _ _).set (fun b hb => by have := hb.1; omega) _ _).set (fun b hb => by have := hb.1; omega) _ _).set (fun b hb => by have := hb.1; omega) _ _).set (fun b hb => by have := hb.1; omega) _ _) (fun b hb => by have := hb.1; omega)
      · exact ((((H9.out.2.2.2.1.store HC.out (by omega) _ _).store HC.out (by omega) _ _).store HC.out (by omega) _ _).store HC.out (by omega) _ _).store HC.out (by omega) _ _
      · exact grown_store (grown_store (grown_store (grown_store (grown_store H9.out.2.2.2.2 (by omega) _ _) (by omega) _ _) (by omega) _ _) (by omega) _ _) (by omega) _ _
  have e4 : ((k : Int) == 4) = false := by simpa using k4
  by_cases k5 : (k : Int) = 5
  · have e5 : ((k : Int) == 5) = true := by simpa using k5
    clear k0 k1 k2 k3 k4 k5
    go_wp2
    refine bodyPost_ret (v := .agg #[.int .i64 62, .int .i64 ac, .int .i64 65536, .slice aR nR cR]) (by simp [results, Try.results47, go_sem, *]) rfl ⟨_, _, _, _, _, _, rfl, ?_, ?_, ?_⟩
    · exact PolM.mk HF.out.1 (by omega) HF.out.2.1 (((((HF.out.2.2.set (fun b hb => by have := hb; omega) _ _).set (fun b hb => by have := hb; omega) _ _).set (fun b hb => by have := hb; omega) _ _).set (fun b hb => by have := hb; omega) _ _).alloc _) (fun b hb => by have := hb; omega)
    · exact ((((HCG.out.1.store HC.out (by omega) _ _).store HC.out (by omega) _ _).store HC.out (by omega) _ _).store HC.out (by omega) _ _).alloc _
    · exact grown_alloc (grown_store (grown_store (grown_store (grown_store HCG.out.2 (by omega) _ _) (by omega) _ _) (by omega) _ _) (by omega) _ _) _
  have e5 : ((k : Int) == 5) = false := by simpa using k5
  clear k0 k1 k2 k3 k4 k5
  go_wp2
  refine bodyPost_ret (v := .agg #[.int .i64 62, .int .i64 ac, .int .i64 da, .slice aR nR cR]) (by simp [results, Try.results47, go_sem, *]) rfl ⟨_, _, _, _, _, _, rfl, ?_, ?_, ?_⟩
  · exact PolM.mk HF.out.1 (by omega) HF.out.2.1 (((((HF.out.2.2.set (fun b hb => by have := hb; omega) _ _).set (fun b hb => by have := hb; omega) _ _).set (fun b hb => by have := hb; omega) _ _).set (fun b hb => by have := hb; omega) _ _).alloc _) (fun b hb => by have := hb; omega)
  · exact ((((HCG.out.1.store HC.out (by omega) _ _).store HC.out (by omega) _ _).store HC.out (by omega) _ _).store HC.out (by omega) _ _).alloc _
  · exact grown_alloc (grown_store (grown_store (grown_store (grown_store HCG.out.2 (by omega) _ _) (by omega) _ _) (by omega) _ _) (by omega) _ _) _

end Go.Proofs.Ytoknlaaghjlnaaa
