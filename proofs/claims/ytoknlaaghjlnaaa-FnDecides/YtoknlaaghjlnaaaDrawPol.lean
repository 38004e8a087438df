/- What spec's l09Policy answers: a right policy, in memory of its own. -/
import Derived.Test.YtoknlaaghjlnaaaRulP
import Derived.Test.YtoknlaaghjlnaaaDrawMade
namespace Go.Proofs.Ytoknlaaghjlnaaa
open Go.RowKit
set_option linter.unusedVariables false

def RuleV (r : RN) (v : Value) (φ : Nat → Prop) (w : World) : Prop :=
  ∃ a1 n1 c1 a2 n2 c2 ac da, v = .agg #[.slice a1 n1 c1, .slice a2 n2 c2, .int .i64 ac, .int .i64 da] ∧ RuleP φ w r [.slice a1 n1 c1, .slice a2 n2 c2, .int .i64 ac, .int .i64 da]

theorem RuleV.kept {φ : Nat → Prop} {w w' : World} {r : RN} {v : Value} (h : RuleV r v φ w) (hb : ∀ b, φ b → b < w.heap.size → w'.heap[b]? = w.heap[b]?) (hs : w.heap.size ≤ w'.heap.size) : RuleV r v φ w' := by
  obtain ⟨a1, n1, c1, a2, n2, c2, ac, da, e, h⟩ := h
  exact ⟨a1, n1, c1, a2, n2, c2, ac, da, e, h.kept hb hs⟩

def AllR (ps : List (RN × List Value)) : Prop := ∀ q ∈ ps, ruleB q.1 = true ∧ Small q.1

theorem AllR.push {ps : List (RN × List Value)} (h : AllR ps) {r : RN} {l : List Value} (h1 : ruleB r = true) (h2 : Small r) : AllR (ps ++ [(r, l)]) := fun q hq => by
  rcases List.mem_append.1 hq with hq | hq
  · exact h q hq
  · simp at hq; rw [hq]; exact ⟨h1, h2⟩

theorem AllR.all {ps : List (RN × List Value)} (h : AllR ps) : (rulesOf ps).all ruleB = true := by
  rw [List.all_eq_true]
  intro r hr
  obtain ⟨q, hq, rfl⟩ := List.mem_map.1 hr
  exact (h q hq).1

theorem AllR.small {ps : List (RN × List Value)} (h : ∀ q ∈ ps, Small q.1) (hl : ps.length ≤ 1048576) : SmallR (rulesOf ps) :=
  ⟨by simpa [rulesOf] using hl, fun k hk => by
    have hk' : k < ps.length := by simpa [rulesOf] using hk
    rw [rulesOf_at ps k hk']
    exact h _ (List.getElem_mem hk')⟩

set_option maxRecDepth 100000 in
set_option maxHeartbeats 6400000 in
theorem policy_any (p : Nat) (a : Option Addr) (len cap : Nat) (w : World) (hC : Cur w p a len cap) :
    Calls Try.prog 41 #[.pointer (some ⟨p, 0, none⟩)] w fun e w' => ∃ (pol : PN) (a1 : Option Addr) (n1 c1 : Nat) (ac da : Int), policyB pol = true ∧ SmallR pol.rules ∧ e = .returned (.agg #[.int .i64 62, .int .i64 ac, .int .i64 da, .slice a1 n1 c1]) ∧ pol.arch = 62 ∧ pol.act = ac ∧ pol.data = da ∧ n1 = pol.rules.length ∧ RulesP (fun b => w.heap.size ≤ b) w' a1 pol.rules ∧ Cur w' p a len cap ∧ w.grownBy w' (some p) := by
  obtain ⟨j0, ji, jz0, jz1, jz2⟩ := info_parts Try.infoRu
  have hp := hC.lt
  have HC : Hid (Cur w p a len cap) := hC
  clear hC
  go_enter Try.func41, Try.ntmps41
  go_wp2_with fail
  refine (pick_list [5, 4, 0, 2] _ p a len cap _ ((HC.out.alloc _).alloc _) (Blk.newAt _ _ _ _ (by simp)) (by omega) (by simp) (by simp)).mono ?_
  rintro e w1 ⟨ac, ha, rfl, hc1, hg1⟩
  have hact : 0 ≤ ac ∧ ac ≤ 5 := by
    simp only [List.mem_cons, List.not_mem_nil, or_false] at ha
    omega
  have r1 := ((Blk.new w [.int .i64 0, .int .i64 0, .int .i64 0, .slice none 0 0] 26).alloc (.cells #[.int .i64 5, .int .i64 4, .int .i64 0, .int .i64 2] 3)).grown hg1 (by simp; omega)
  have g1 : w.grownBy w1 (some p) := grown_trans (grown_alloc (grown_alloc (grown_refl w _) _) _) hg1
  have hp1 := hc1.lt
  have hs1 := r1.lt
  clear hg1 ha
  obtain ⟨X, hX⟩ : ∃ X, X = w1.heap.size := ⟨_, rfl⟩
  have hXp : X ≠ p := by omega
  have hXw : w.heap.size < X := by omega
  by_cases h2 : ac = 2
  · have h2' : (ac == 2) = true := by simpa using h2
    have HO : Hid ((halfB 62 && outB ac 1) = true) := by unfold Hid outB; rw [inB_true.2 hact]; rfl
    clear h2
    obtain ⟨da, hda⟩ : ∃ da : Int, da = 1 := ⟨1, rfl⟩
    rw [← hda] at HO
    have hx2 : Blk (w1.alloc (.cells #[.int .i64 62, .int .i64 ac, .int .i64 1, .slice none 0 0] 26)) X [.int .i64 62, .int .i64 ac, .int .i64 da, .slice none 0 0] 26 := by rw [hX, hda]; exact Blk.new _ _ _
    have hr2 := r1.alloc (.cells #[.int .i64 62, .int .i64 ac, .int .i64 1, .slice none 0 0] 26)
    have hc2 := hc1.alloc (.cells #[.int .i64 62, .int .i64 ac, .int .i64 1, .slice none 0 0] 26)
    have g2 := grown_alloc g1 (.cells #[.int .i64 62, .int .i64 ac, .int .i64 1, .slice none 0 0] 26)
    clear r1 g1 hs1 hp1 hc1 hda
    go_wp2_with fail
    rw [← hX]
    clear hX
    generalize w1.alloc (.cells #[.int .i64 62, .int .i64 ac, .int .i64 1, .slice none 0 0] 26) = w2 at *
    obtain ⟨B2, hB2⟩ : ∃ B2, B2 = w2.heap.size := ⟨_, rfl⟩
    have HB2 : Hid (X < B2 ∧ p < B2 ∧ w.heap.size < B2) := ⟨by have := hx2.lt; omega, by have := hc2.lt; omega, by have := hr2.lt; omega⟩
    have HS2 : Hid (Cur w2 p a len cap ∧ w.grownBy w2 (some p) ∧ Blk w2 w.heap.size [.int .i64 0, .int .i64 0, .int .i64 0, .slice none 0 0] 26 ∧ Blk w2 X [.int .i64 62, .int .i64 ac, .int .i64 da, .slice none 0 0] 26 ∧ B2 ≤ w2.heap.size) := ⟨hc2, g2, hr2, hx2, by omega⟩
    clear hc2 g2 hr2 hx2 hB2
    go_loopw [4] (fun i wr => ∃ (k : Nat) (ps : List (RN × List Value)) (v1 : Value), i = .int .i64 k ∧ k ≤ 4 ∧ Hid (ps.length = k ∧ AllR ps ∧ Blk wr X [.int .i64 62, .int .i64 ac, .int .i64 da, v1] 26 ∧ Blk wr w.heap.size [.int .i64 0, .int .i64 0, .int .i64 0, .slice none 0 0] 26 ∧ RowR (fun b => B2 ≤ b ∧ some b ≠ v1.ownBlock) wr ps ∧ wr.ownsRow B2 37 4 v1 k (flatR ps) ∧ Cur wr p a len cap ∧ w.grownBy wr (some p) ∧ B2 ≤ wr.heap.size)) (fun i _ => 5 - (intOf i).toNat)
    case atStart => exact ⟨0, [], _, rfl, by omega, rfl, fun q hq => by simp at hq, HS2.out.2.2.2.1, HS2.out.2.2.1, fun q hq => by simp at hq, ⟨rfl, .inl ⟨rfl, rfl⟩⟩, HS2.out.1, HS2.out.2.1, HS2.out.2.2.2.2⟩
    case round =>
      obtain ⟨k2, ps, v1, rfl, hk2, HI2⟩ := hrel
      go_wp2_with fail
      refine (below_any 5 p a len cap _ HI2.out.2.2.2.2.2.2.1 (by omega)).mono ?_
      rintro e w6 ⟨y2, hy2, _, _, rfl, hc6, hg6⟩
      have hy3 := hy2 (by omega)
      have HJ2 : Hid (ps.length = k2 ∧ AllR ps ∧ Blk w6 X [.int .i64 62, .int .i64 ac, .int .i64 da, v1] 26 ∧ Blk w6 w.heap.size [.int .i64 0, .int .i64 0, .int .i64 0, .slice none 0 0] 26 ∧ RowR (fun b => B2 ≤ b ∧ some b ≠ v1.ownBlock) w6 ps ∧ w6.ownsRow B2 37 4 v1 k2 (flatR ps) ∧ Cur w6 p a len cap ∧ w.grownBy w6 (some p) ∧ B2 ≤ w6.heap.size) := by
        obtain ⟨h1, h2, h3, h4, h5, h6, h7, h8, h9⟩ := HI2.out
        exact ⟨h1, h2, h3.grownP hg6 hXp, h4.grownP hg6 (by omega), h5.grown hg6 (fun b hb _ => ne_some (by have := HB2.out.2.1; omega)), own_grown h6 hg6 HB2.out.2.1, hc6, grown_trans h8 hg6, Nat.le_trans h9 hg6.size⟩
      clear hc6 hg6 HI2 hy2
      by_cases hlt2 : k2 < y2
      · have bk2 : (k2 : Int) < (y2 : Int) := by omega
        have hk1 : k2 ≤ 3 := by omega
        have HV : Hid (∀ x, v1.ownBlock = some x → B2 ≤ x ∧ x < w6.heap.size) := fun x hx => own_lt9 HJ2.out.2.2.2.2.2.1 hx
        have HP6 : Hid (p < w6.heap.size) := HJ2.out.2.2.2.2.2.2.1.lt
        go_wp2_with fail
        refine' wp_region_looset_tail 7 5 (.inl _ :: .inl _ :: .inl _ :: .inr (fun v W => ∃ r : RN, (ruleB r = true ∧ Small r) ∧ RuleV r v (fun b => w6.heap.size ≤ b) W) :: .inr (fun v W => ∃ (h : Nat) (r : RN) (a1 : Option Addr) (n1 c1 : Nat) (a2 : Option Addr) (n2 c2 : Nat) (rac rda : Int), (ruleB r = true ∧ Small r) ∧ v = .slice (some ⟨h, 0, none⟩) 1 1 ∧ w6.heap.size ≤ h ∧ Blk W h [.slice a1 n1 c1, .slice a2 n2 c2, .int .i64 rac, .int .i64 rda] 37 ∧ RuleP (fun b => w6.heap.size ≤ b) W r [.slice a1 n1 c1, .slice a2 n2 c2, .int .i64 rac, .int .i64 rda]) :: .inr (fun v W => ∃ (g cap' : Nat) (r : RN) (l : List Value), (ruleB r = true ∧ Small r) ∧ v = .slice (some ⟨g, 0, none⟩) (k2 + 1) cap' ∧ W.ownsRow B2 37 4 (.slice (some ⟨g, 0, none⟩) (k2 + 1) cap') (k2 + 1) (flatR ps ++ l) ∧ RuleP (fun b => w6.heap.size ≤ b ∧ b ≠ g) W r l ∧ (v1.ownBlock = some g ∨ w6.heap.size ≤ g)) :: .inl _ :: []) (fun b W => (Cur W p a len cap ∧ w.grownBy W (some p) ∧ Blk W w.heap.size [.int .i64 0, .int .i64 0, .int .i64 0, .slice none 0 0] 26 ∧ Blk W X [.int .i64 62, .int .i64 ac, .int .i64 da, v1] 26 ∧ RowR (fun b => (B2 ≤ b ∧ some b ≠ v1.ownBlock) ∧ b < w6.heap.size) W ps ∧ w6.heap.size ≤ W.heap.size) ∧ (b = false → W.ownsRow B2 37 4 v1 k2 (flatR ps))) (fun j W W' => (j = 5 → W.grownBy W' v1.ownBlock) ∧ (j ≠ 5 → W.grownBy W' (some p))) (by kernel_rfl) (by kernel_rfl) (⟨⟨HJ2.out.2.2.2.2.2.2.1, grown_drew1 HJ2.out.2.2.2.2.2.2.2.1, HJ2.out.2.2.2.1, HJ2.out.2.2.1, RowR.imp (w := w6) HJ2.out.2.2.2.2.1 (fun b h1 h2 => ⟨h1, h2⟩), Nat.le_refl _⟩, fun _ => HJ2.out.2.2.2.2.2.1⟩) (by decide) (fun h => by cases h) ?hAy ?hly ?hMy
        case' hMy => skip
        simp only [List.take_succ_cons, List.take_zero, List.drop_succ_cons, List.drop_zero]
        apply wpLooseT_val rfl rfl (by decide)
        case hs =>
          intro b1 w1 hC hd Q1 hQ1
          dsimp only [bare]
          have q1 := hC.1.2.2.2.1.cell 3 _ rfl
          clear hd
          have HCC : Hid _ := hC
          clear hC
          go_wp2
          exact ⟨HCC.out, ⟨fun h => by omega, fun _ => grown_refl _ _⟩⟩
        case ha => rfl
        apply wpLooseT_val rfl rfl (by decide)
        case hs =>
          intro b1 w1 hC hd Q1 hQ1
          dsimp only [bare]
          have q1 := hC.1.2.2.2.1.cell 3 _ rfl
          clear hd
          have HCC : Hid _ := hC
          clear hC
          go_wp2
          exact ⟨HCC.out, ⟨fun h => by omega, fun _ => grown_refl _ _⟩⟩
        case ha => rfl
        apply wpLooseT_val rfl rfl (by decide)
        case hs =>
          intro b1 w1 hC hd Q1 hQ1
          dsimp only [bare]
          have q1 := hC.1.2.2.2.1.cell 3 _ rfl
          clear hd
          have HCC : Hid _ := hC
          clear hC
          go_wp2
          exact ⟨HCC.out, ⟨fun h => by omega, fun _ => grown_refl _ _⟩⟩
        case ha => rfl
        refine wpLooseT_rel rfl rfl (by decide) ?_ (fun vy_3 => ?_)
        · intro b1 w1 hC hd Q1 hQ1
          dsimp only [bare]
          clear hd
          have HCC : Hid _ := hC
          have HQ : Hid _ := hQ1
          clear hC hQ1
          go_wp2_with fail
          refine (made_any p a len cap _ HCC.out.1.1).mono ?_
          rintro e w7 ⟨r, a1, n1, c1, a2, n2, c2, rac, rda, hrb, hrs, rfl, hRN, hc7, hg7⟩
          go_wp2_with fail
          obtain ⟨⟨h1, h2, h3, h4, h5, h6⟩, h7⟩ := HCC.out
          exact HQ.out _ _ ⟨⟨⟨hc7, grown_trans h2 hg7, h3.grownP hg7 (by omega), h4.grownP hg7 hXp, h5.grown hg7 (fun b hb _ => ne_some (by have := HB2.out.2.1; have := hb.1.1; omega)), Nat.le_trans h6 hg7.size⟩, fun hb => own_grown (h7 hb) hg7 HB2.out.2.1⟩, ⟨fun h => by omega, fun _ => hg7⟩, r, ⟨hrb, hrs⟩, a1, n1, c1, a2, n2, c2, rac, rda, rfl, hRN.p.imp (fun b hb _ => by omega)⟩
        refine wpLooseT_rel rfl rfl (by decide) ?_ (fun vy_4 => ?_)
        · intro b1 w1 hC hd Q1 hQ1
          dsimp only [bare]
          have h3 : ∃ r : RN, (ruleB r = true ∧ Small r) ∧ RuleV r vy_3 (fun b => w6.heap.size ≤ b) w1 := hd ⟨3, .data⟩ (by simp) rfl _ rfl (by simp [Act.put])
          clear hd
          obtain ⟨r, hrb, a1, n1, c1, a2, n2, c2, rac, rda, rfl, hRP⟩ := h3
          have HCC : Hid _ := hC
          have HQ : Hid _ := hQ1
          have HCB : Hid _ := hrb
          have HRP : Hid (RuleP (fun b => w6.heap.size ≤ b) w1 r [.slice a1 n1 c1, .slice a2 n2 c2, .int .i64 rac, .int .i64 rda]) := hRP
          clear hC hQ1 hrb hRP
          go_wp2_with fail
          obtain ⟨⟨h1, h2, h3, h4, h5, h6⟩, h7⟩ := HCC.out
          exact HQ.out _ _ ⟨⟨⟨h1.alloc _, grown_alloc h2 _, h3.alloc _, h4.alloc _, h5.kept (fun b _ hl => Below.heap_alloc _ _ _ hl) (by simp), by simp; omega⟩, fun hb => own_below (h7 hb) (Ext.one _ _)⟩, ⟨fun h => by omega, fun _ => grown_alloc (grown_refl _ _) _⟩, w1.heap.size, r, a1, n1, c1, a2, n2, c2, rac, rda, HCB.out, rfl, h6, Blk.new _ _ _, RuleP.kept HRP.out (fun b _ hl => Below.heap_alloc _ _ _ hl) (by simp)⟩
        refine wpLooseT_spec rfl rfl (by decide) ?_ (fun vy_5 => ?_)
        · intro w1 hC hd Q1 hQ1
          dsimp only [bare]
          have h4 : ∃ (h : Nat) (r : RN) (a1 : Option Addr) (n1 c1 : Nat) (a2 : Option Addr) (n2 c2 : Nat) (rac rda : Int), (ruleB r = true ∧ Small r) ∧ vy_4 = .slice (some ⟨h, 0, none⟩) 1 1 ∧ w6.heap.size ≤ h ∧ Blk w1 h [.slice a1 n1 c1, .slice a2 n2 c2, .int .i64 rac, .int .i64 rda] 37 ∧ RuleP (fun b => w6.heap.size ≤ b) w1 r [.slice a1 n1 c1, .slice a2 n2 c2, .int .i64 rac, .int .i64 rda] := hd ⟨4, .data⟩ (by simp) rfl _ rfl (by simp [Act.put])
          clear hd
          obtain ⟨h, r, a1, n1, c1, a2, n2, c2, rac, rda, hcb, rfl, hh6, hblk, hRP⟩ := h4
          have HCC : Hid _ := hC
          have HQ : Hid _ := hQ1
          have HCB : Hid _ := hcb
          have HRP : Hid (RuleP (fun b => w6.heap.size ≤ b) w1 r [.slice a1 n1 c1, .slice a2 n2 c2, .int .i64 rac, .int .i64 rda]) := hRP
          have HBK : Hid (Blk w1 h [.slice a1 n1 c1, .slice a2 n2 c2, .int .i64 rac, .int .i64 rda] 37 ∧ w6.heap.size ≤ h ∧ B2 ≤ w1.heap.size) := ⟨hblk, hh6, by have := HJ2.out.2.2.2.2.2.2.2.2; have := HCC.out.1.2.2.2.2.2; omega⟩
          clear hC hQ1 hcb hblk hh6 hRP
          go_wp2_with (at_builtin; refine wpList_append_lies _ rfl _ _ 24 rfl B2 37 j0 (.agg #[.slice none 0 0, .slice none 0 0, .int .i64 0, .int .i64 0]) 4 64 Try.underlying24 ji jz0 jz1 jz2 rfl (by decide) _ _ _ rfl (HCC.out.2 rfl) ⟨h, 0, none⟩ 1 1 [.slice a1 n1 c1, .slice a2 n2 c2, .int .i64 rac, .int .i64 rda] rfl rfl ?c1 ?c2 (by omega) ?c3 ?c4 ?c5 w1.heap.size rfl ?_)
          case c1 => exact fun j u hu => HBK.out.1.cell j u hu
          case c2 => simp [Value.oneCell']
          case c3 => unfold maxLen; omega
          case c4 => omega
          case c5 => exact HBK.out.2.2
          intro g cap' w5 hown5 hgrow5 hat5 hlt5
          obtain ⟨⟨h1, h2, h3, h4, h5, h6⟩, h7⟩ := HCC.out
          have hv1 : ∀ x, v1.ownBlock = some x → B2 ≤ x := fun x hx => (HV.out x hx).1
          have hX1 : some X ≠ v1.ownBlock := fun e => by have := hv1 X e.symm; have := HB2.out.1; omega
          have hR1 : some w.heap.size ≠ v1.ownBlock := fun e => by have := hv1 _ e.symm; have := HB2.out.2.2; omega
          have hP1 : v1.ownBlock ≠ some p := fun e => by have := hv1 _ e; have := HB2.out.2.1; omega
          have hRP5 : RuleP (fun b => w6.heap.size ≤ b ∧ b ≠ g) w5 r [.slice a1 n1 c1, .slice a2 n2 c2, .int .i64 rac, .int .i64 rda] := (RuleP.imp (ψ := fun b => w6.heap.size ≤ b ∧ b ≠ g) HRP.out (fun b hb hl => ⟨hb, by rcases hat5 with h | h; have := (HV.out g h).2; omega; omega⟩)).kept (fun b hb hl => hgrow5.block b hl (fun e => by have := (HV.out b e.symm).2; have := hb.1; omega)) hgrow5.size
          go_wp2_with fail
          exact HQ.out _ _ ⟨⟨⟨h1.kept hgrow5 hP1 (fun b off e hl => fun e2 => by have := hv1 _ e2; have := HC.out.code b off e hl; have := HB2.out.2.2; omega), grown_own h2 hgrow5 (fun x hx => by have := hv1 x hx; have := HB2.out.2.2; omega), h3.grown hgrow5 hR1, h4.grown hgrow5 hX1, h5.grown hgrow5 (fun b hb _ => hb.1.2), Nat.le_trans h6 hgrow5.size⟩, fun hb => by cases hb⟩, ⟨fun _ => hgrow5, fun h => by omega⟩, g, cap', r, _, HCB.out, rfl, hown5, hRP5, by rcases hat5 with h | h; exact .inl h; exact .inr (by omega)⟩
        apply wpLooseT_val rfl rfl (by decide)
        case hs =>
          intro b1 w1 hC hd Q1 hQ1
          dsimp only [bare]
          have q1 := hC.1.2.2.2.1.cell 3 _ rfl
          clear hd
          have HCC : Hid _ := hC
          clear hC
          go_wp2
          exact ⟨HCC.out, ⟨fun h => by omega, fun _ => grown_refl _ _⟩⟩
        case ha => rfl
        refine wpLooseT_nil ?_
        intro wy hCy hFy
        obtain ⟨⟨h1, h2, h3, h4, h5, h6⟩, _⟩ := hCy
        obtain ⟨g, cap', r, l, hcb, rfl, hown, hRP, hat⟩ := (hFy 5 _ rfl (by decide) (by simp) : ∃ (g cap' : Nat) (r : RN) (l : List Value), (ruleB r = true ∧ Small r) ∧ vy_5 = .slice (some ⟨g, 0, none⟩) (k2 + 1) cap' ∧ wy.ownsRow B2 37 4 (.slice (some ⟨g, 0, none⟩) (k2 + 1) cap') (k2 + 1) (flatR ps ++ l) ∧ RuleP (fun b => w6.heap.size ≤ b ∧ b ≠ g) wy r l ∧ (v1.ownBlock = some g ∨ w6.heap.size ≤ g))
        have HK2 : Hid ((ps ++ [(r, l)]).length = k2 + 1 ∧ AllR (ps ++ [(r, l)]) ∧ Blk wy X [.int .i64 62, .int .i64 ac, .int .i64 da, v1] 26 ∧ Blk wy w.heap.size [.int .i64 0, .int .i64 0, .int .i64 0, .slice none 0 0] 26 ∧ RowR (fun b => B2 ≤ b ∧ some b ≠ some g) wy (ps ++ [(r, l)]) ∧ wy.ownsRow B2 37 4 (.slice (some ⟨g, 0, none⟩) (k2 + 1) cap') (k2 + 1) (flatR (ps ++ [(r, l)])) ∧ Cur wy p a len cap ∧ w.grownBy wy (some p) ∧ B2 ≤ wy.heap.size) := by
          have h9 := HJ2.out.2.2.2.2.2.2.2.2
          refine ⟨by simp [HJ2.out.1], HJ2.out.2.1.push hcb.1 hcb.2, h4, h3, ?_, ?_, h1, h2, by omega⟩
          · refine RowR.push (h5.imp fun b hb hl => ⟨hb.1.1, fun e => ?_⟩) (hRP.imp fun b hb hl => ⟨by have := hb.1; omega, fun e => hb.2 (Option.some.inj e)⟩)
            rcases hat with h | h
            · exact hb.1.2 (by rw [e, h])
            · have := Option.some.inj e; have := hb.2; omega
          · rw [← flatR_push]
            exact hown
        have q1 := h4.cell 3 _ rfl
        have fX := h4.free
        clear h1 h2 h3 h4 h5 h6 hown hcb hFy HJ2 HV hRP hat HP6
        go_wp2
        go_roundw
        case rel =>
          obtain ⟨h1, h2, h3, h4, h5, h6, h7, h8, h9⟩ := HK2.out
          exact ⟨k2 + 1, _, _, by go_num, by omega, h1, h2, h3.set 3 _, h4.other (by omega) _ _, h5.set (fun b hb => by have := HB2.out.1; have := hb.1; omega) _ _, ownsRow_setCell_below h6 (by show X < B2; exact HB2.out.1) _, h7.store HC.out (by omega) _ _, grown_store h8 (by omega) _ _, by rw [World.size_setCell]; exact h9⟩
        case measure => simp [intOf]; omega
        case hAy => kernel_rfl
        case hly => exact ⟨trivial, trivial, trivial, fun i hi v W W' ⟨r, h1, h2⟩ hT => ⟨r, h1, by by_cases h5 : i = 5; exact h2.kept (fun b hb hl => (hT.1 h5).block b hl (fun e => by have := (HV.out b e.symm).2; omega)) (hT.1 h5).size; exact h2.kept (fun b hb hl => (hT.2 h5).block b hl (ne_some (by have := HP6.out; omega))) (hT.2 h5).size⟩, fun i hi v W W' ⟨h, r, a1, n1, c1, a2, n2, c2, rac, rda, e1, e2, e3, e4, e5⟩ hT => ⟨h, r, a1, n1, c1, a2, n2, c2, rac, rda, e1, e2, e3, by by_cases h5 : i = 5; exact e4.grown (hT.1 h5) (fun e => by have := (HV.out h e.symm).2; omega); exact e4.grownP (hT.2 h5) (by have := HP6.out; omega), by by_cases h5 : i = 5; exact e5.kept (fun b hb hl => (hT.1 h5).block b hl (fun e => by have := (HV.out b e.symm).2; omega)) (hT.1 h5).size; exact e5.kept (fun b hb hl => (hT.2 h5).block b hl (ne_some (by have := HP6.out; omega))) (hT.2 h5).size⟩, fun i hi v W W' ⟨g, cap', r, l, e1, e2, e3, e4, e5⟩ hT => ⟨g, cap', r, l, e1, e2, own_grown e3 (hT.2 hi) HB2.out.2.1, e4.kept (fun b hb hl => (hT.2 hi).block b hl (ne_some (by have := HP6.out; have := hb.1; omega))) (hT.2 hi).size, e5⟩, trivial, trivial⟩
      · have bk2 : ¬ ((k2 : Int) < (y2 : Int)) := by omega
        obtain ⟨h1, h2, h3, h4, h5, h6, h7, h8, h9⟩ := HJ2.out
        obtain ⟨a1, c1, rfl, hq⟩ := own_rules h6 h1 (h5.imp (ψ := fun b => B2 ≤ b) fun b hb _ => hb.1) (fun b hb => hb)
        have HRR : Hid (RulesP (fun b => B2 ≤ b) w6 a1 (rulesOf ps)) := hq
        have HRB : Hid (policyB ⟨62, ac, da, rulesOf ps⟩ = true ∧ SmallR (rulesOf ps) ∧ k2 = (rulesOf ps).length) := by
          have hl : (rulesOf ps).length = k2 := by simpa [rulesOf] using h1
          refine ⟨?_, AllR.small (fun q hq => (h2 q hq).2) (by omega), hl.symm⟩
          rw [policyB_if, HO.out, h2.all, hl, decide_eq_true (by omega)]
          rfl
        have HCG : Hid (Cur w6 p a len cap ∧ w.grownBy w6 (some p)) := ⟨h7, h8⟩
        obtain ⟨q0, q1, q2, q3, s0, s1, s2, s3⟩ := (⟨h3.cell 0 _ rfl, h3.cell 1 _ rfl, h3.cell 2 _ rfl, h3.cell 3 _ rfl, h4.cell 0 _ rfl, h4.cell 1 _ rfl, h4.cell 2 _ rfl, h4.cell 3 _ rfl⟩ : _ ∧ _ ∧ _ ∧ _ ∧ _ ∧ _ ∧ _ ∧ _)
        have fR := h4.free
        have hR := h4.lt
        clear h1 h2 h3 h4 h5 h6 h7 h8 h9 hq HJ2 HS2
        go_wp2
        refine bodyPost_ret (v := .agg #[.int .i64 62, .int .i64 ac, .int .i64 da, .slice a1 k2 c1]) (by simp [results, Try.results41, go_sem, *]) rfl ?_
        refine ⟨⟨62, ac, da, rulesOf ps⟩, a1, k2, c1, ac, da, HRB.out.1, HRB.out.2.1, rfl, rfl, rfl, rfl, HRB.out.2.2, ?_, ?_, ?_⟩
        · exact ((((HRR.out.set (fun b hb => by have := HB2.out.2.2; omega) _ _).set (fun b hb => by have := HB2.out.2.2; omega) _ _).set (fun b hb => by have := HB2.out.2.2; omega) _ _).set (fun b hb => by have := HB2.out.2.2; omega) _ _).imp (fun b hb _ => by have := HB2.out.2.2; omega)
        · exact (((HCG.out.1.store HC.out (by omega) _ _).store HC.out (by omega) _ _).store HC.out (by omega) _ _).store HC.out (by omega) _ _
        · exact grown_store (grown_store (grown_store (grown_store HCG.out.2 (by omega) _ _) (by omega) _ _) (by omega) _ _) (by omega) _ _
  · have h2' : (ac == 2) = false := by simpa using h2
    obtain ⟨da, hda⟩ : ∃ da : Int, da = 0 := ⟨0, rfl⟩
    have HO : Hid ((halfB 62 && outB ac da) = true) := by unfold Hid outB; rw [hda, inB_true.2 hact]; rfl
    have hx2 : Blk (w1.alloc (.cells #[.int .i64 62, .int .i64 ac, .int .i64 0, .slice none 0 0] 26)) X [.int .i64 62, .int .i64 ac, .int .i64 da, .slice none 0 0] 26 := by rw [hX, hda]; exact Blk.new _ _ _
    have hr2 := r1.alloc (.cells #[.int .i64 62, .int .i64 ac, .int .i64 0, .slice none 0 0] 26)
    have hc2 := hc1.alloc (.cells #[.int .i64 62, .int .i64 ac, .int .i64 0, .slice none 0 0] 26)
    have g2 := grown_alloc g1 (.cells #[.int .i64 62, .int .i64 ac, .int .i64 0, .slice none 0 0] 26)
    clear r1 g1 hs1 hp1 hc1 hda
    go_wp2_with fail
    rw [← hX]
    clear hX
    generalize w1.alloc (.cells #[.int .i64 62, .int .i64 ac, .int .i64 0, .slice none 0 0] 26) = w2 at *
    obtain ⟨B2, hB2⟩ : ∃ B2, B2 = w2.heap.size := ⟨_, rfl⟩
    have HB2 : Hid (X < B2 ∧ p < B2 ∧ w.heap.size < B2) := ⟨by have := hx2.lt; omega, by have := hc2.lt; omega, by have := hr2.lt; omega⟩
    have HS2 : Hid (Cur w2 p a len cap ∧ w.grownBy w2 (some p) ∧ Blk w2 w.heap.size [.int .i64 0, .int .i64 0, .int .i64 0, .slice none 0 0] 26 ∧ Blk w2 X [.int .i64 62, .int .i64 ac, .int .i64 da, .slice none 0 0] 26 ∧ B2 ≤ w2.heap.size) := ⟨hc2, g2, hr2, hx2, by omega⟩
    clear hc2 g2 hr2 hx2 hB2
    go_loopw [4] (fun i wr => ∃ (k : Nat) (ps : List (RN × List Value)) (v1 : Value), i = .int .i64 k ∧ k ≤ 4 ∧ Hid (ps.length = k ∧ AllR ps ∧ Blk wr X [.int .i64 62, .int .i64 ac, .int .i64 da, v1] 26 ∧ Blk wr w.heap.size [.int .i64 0, .int .i64 0, .int .i64 0, .slice none 0 0] 26 ∧ RowR (fun b => B2 ≤ b ∧ some b ≠ v1.ownBlock) wr ps ∧ wr.ownsRow B2 37 4 v1 k (flatR ps) ∧ Cur wr p a len cap ∧ w.grownBy wr (some p) ∧ B2 ≤ wr.heap.size)) (fun i _ => 5 - (intOf i).toNat)
    case atStart => exact ⟨0, [], _, rfl, by omega, rfl, fun q hq => by simp at hq, HS2.out.2.2.2.1, HS2.out.2.2.1, fun q hq => by simp at hq, ⟨rfl, .inl ⟨rfl, rfl⟩⟩, HS2.out.1, HS2.out.2.1, HS2.out.2.2.2.2⟩
    case round =>
      obtain ⟨k2, ps, v1, rfl, hk2, HI2⟩ := hrel
      go_wp2_with fail
      refine (below_any 5 p a len cap _ HI2.out.2.2.2.2.2.2.1 (by omega)).mono ?_
      rintro e w6 ⟨y2, hy2, _, _, rfl, hc6, hg6⟩
      have hy3 := hy2 (by omega)
      have HJ2 : Hid (ps.length = k2 ∧ AllR ps ∧ Blk w6 X [.int .i64 62, .int .i64 ac, .int .i64 da, v1] 26 ∧ Blk w6 w.heap.size [.int .i64 0, .int .i64 0, .int .i64 0, .slice none 0 0] 26 ∧ RowR (fun b => B2 ≤ b ∧ some b ≠ v1.ownBlock) w6 ps ∧ w6.ownsRow B2 37 4 v1 k2 (flatR ps) ∧ Cur w6 p a len cap ∧ w.grownBy w6 (some p) ∧ B2 ≤ w6.heap.size) := by
        obtain ⟨h1, h2, h3, h4, h5, h6, h7, h8, h9⟩ := HI2.out
        exact ⟨h1, h2, h3.grownP hg6 hXp, h4.grownP hg6 (by omega), h5.grown hg6 (fun b hb _ => ne_some (by have := HB2.out.2.1; omega)), own_grown h6 hg6 HB2.out.2.1, hc6, grown_trans h8 hg6, Nat.le_trans h9 hg6.size⟩
      clear hc6 hg6 HI2 hy2
      by_cases hlt2 : k2 < y2
      · have bk2 : (k2 : Int) < (y2 : Int) := by omega
        have hk1 : k2 ≤ 3 := by omega
        have HV : Hid (∀ x, v1.ownBlock = some x → B2 ≤ x ∧ x < w6.heap.size) := fun x hx => own_lt9 HJ2.out.2.2.2.2.2.1 hx
        have HP6 : Hid (p < w6.heap.size) := HJ2.out.2.2.2.2.2.2.1.lt
        go_wp2_with fail
        refine' wp_region_looset_tail 7 5 (.inl _ :: .inl _ :: .inl _ :: .inr (fun v W => ∃ r : RN, (ruleB r = true ∧ Small r) ∧ RuleV r v (fun b => w6.heap.size ≤ b) W) :: .inr (fun v W => ∃ (h : Nat) (r : RN) (a1 : Option Addr) (n1 c1 : Nat) (a2 : Option Addr) (n2 c2 : Nat) (rac rda : Int), (ruleB r = true ∧ Small r) ∧ v = .slice (some ⟨h, 0, none⟩) 1 1 ∧ w6.heap.size ≤ h ∧ Blk W h [.slice a1 n1 c1, .slice a2 n2 c2, .int .i64 rac, .int .i64 rda] 37 ∧ RuleP (fun b => w6.heap.size ≤ b) W r [.slice a1 n1 c1, .slice a2 n2 c2, .int .i64 rac, .int .i64 rda]) :: .inr (fun v W => ∃ (g cap' : Nat) (r : RN) (l : List Value), (ruleB r = true ∧ Small r) ∧ v = .slice (some ⟨g, 0, none⟩) (k2 + 1) cap' ∧ W.ownsRow B2 37 4 (.slice (some ⟨g, 0, none⟩) (k2 + 1) cap') (k2 + 1) (flatR ps ++ l) ∧ RuleP (fun b => w6.heap.size ≤ b ∧ b ≠ g) W r l ∧ (v1.ownBlock = some g ∨ w6.heap.size ≤ g)) :: .inl _ :: []) (fun b W => (Cur W p a len cap ∧ w.grownBy W (some p) ∧ Blk W w.heap.size [.int .i64 0, .int .i64 0, .int .i64 0, .slice none 0 0] 26 ∧ Blk W X [.int .i64 62, .int .i64 ac, .int .i64 da, v1] 26 ∧ RowR (fun b => (B2 ≤ b ∧ some b ≠ v1.ownBlock) ∧ b < w6.heap.size) W ps ∧ w6.heap.size ≤ W.heap.size) ∧ (b = false → W.ownsRow B2 37 4 v1 k2 (flatR ps))) (fun j W W' => (j = 5 → W.grownBy W' v1.ownBlock) ∧ (j ≠ 5 → W.grownBy W' (some p))) (by kernel_rfl) (by kernel_rfl) (⟨⟨HJ2.out.2.2.2.2.2.2.1, grown_drew1 HJ2.out.2.2.2.2.2.2.2.1, HJ2.out.2.2.2.1, HJ2.out.2.2.1, RowR.imp (w := w6) HJ2.out.2.2.2.2.1 (fun b h1 h2 => ⟨h1, h2⟩), Nat.le_refl _⟩, fun _ => HJ2.out.2.2.2.2.2.1⟩) (by decide) (fun h => by cases h) ?hAx ?hlx ?hMx
        case' hMx => skip
        simp only [List.take_succ_cons, List.take_zero, List.drop_succ_cons, List.drop_zero]
        apply wpLooseT_val rfl rfl (by decide)
        case hs =>
          intro b1 w1 hC hd Q1 hQ1
          dsimp only [bare]
          have q1 := hC.1.2.2.2.1.cell 3 _ rfl
          clear hd
          have HCC : Hid _ := hC
          clear hC
          go_wp2
          exact ⟨HCC.out, ⟨fun h => by omega, fun _ => grown_refl _ _⟩⟩
        case ha => rfl
        apply wpLooseT_val rfl rfl (by decide)
        case hs =>
          intro b1 w1 hC hd Q1 hQ1
          dsimp only [bare]
          have q1 := hC.1.2.2.2.1.cell 3 _ rfl
          clear hd
          have HCC : Hid _ := hC
          clear hC
          go_wp2
          exact ⟨HCC.out, ⟨fun h => by omega, fun _ => grown_refl _ _⟩⟩
        case ha => rfl
        apply wpLooseT_val rfl rfl (by decide)
        case hs =>
          intro b1 w1 hC hd Q1 hQ1
          dsimp only [bare]
          have q1 := hC.1.2.2.2.1.cell 3 _ rfl
          clear hd
          have HCC : Hid _ := hC
          clear hC
          go_wp2
          exact ⟨HCC.out, ⟨fun h => by omega, fun _ => grown_refl _ _⟩⟩
        case ha => rfl
        refine wpLooseT_rel rfl rfl (by decide) ?_ (fun vx_3 => ?_)
        · intro b1 w1 hC hd Q1 hQ1
          dsimp only [bare]
          clear hd
          have HCC : Hid _ := hC
          have HQ : Hid _ := hQ1
          clear hC hQ1
          go_wp2_with fail
          refine (made_any p a len cap _ HCC.out.1.1).mono ?_
          rintro e w7 ⟨r, a1, n1, c1, a2, n2, c2, rac, rda, hrb, hrs, rfl, hRN, hc7, hg7⟩
          go_wp2_with fail
          obtain ⟨⟨h1, h2, h3, h4, h5, h6⟩, h7⟩ := HCC.out
          exact HQ.out _ _ ⟨⟨⟨hc7, grown_trans h2 hg7, h3.grownP hg7 (by omega), h4.grownP hg7 hXp, h5.grown hg7 (fun b hb _ => ne_some (by have := HB2.out.2.1; have := hb.1.1; omega)), Nat.le_trans h6 hg7.size⟩, fun hb => own_grown (h7 hb) hg7 HB2.out.2.1⟩, ⟨fun h => by omega, fun _ => hg7⟩, r, ⟨hrb, hrs⟩, a1, n1, c1, a2, n2, c2, rac, rda, rfl, hRN.p.imp (fun b hb _ => by omega)⟩
        refine wpLooseT_rel rfl rfl (by decide) ?_ (fun vx_4 => ?_)
        · intro b1 w1 hC hd Q1 hQ1
          dsimp only [bare]
          have h3 : ∃ r : RN, (ruleB r = true ∧ Small r) ∧ RuleV r vx_3 (fun b => w6.heap.size ≤ b) w1 := hd ⟨3, .data⟩ (by simp) rfl _ rfl (by simp [Act.put])
          clear hd
          obtain ⟨r, hrb, a1, n1, c1, a2, n2, c2, rac, rda, rfl, hRP⟩ := h3
          have HCC : Hid _ := hC
          have HQ : Hid _ := hQ1
          have HCB : Hid _ := hrb
          have HRP : Hid (RuleP (fun b => w6.heap.size ≤ b) w1 r [.slice a1 n1 c1, .slice a2 n2 c2, .int .i64 rac, .int .i64 rda]) := hRP
          clear hC hQ1 hrb hRP
          go_wp2_with fail
          obtain ⟨⟨h1, h2, h3, h4, h5, h6⟩, h7⟩ := HCC.out
          exact HQ.out _ _ ⟨⟨⟨h1.alloc _, grown_alloc h2 _, h3.alloc _, h4.alloc _, h5.kept (fun b _ hl => Below.heap_alloc _ _ _ hl) (by simp), by simp; omega⟩, fun hb => own_below (h7 hb) (Ext.one _ _)⟩, ⟨fun h => by omega, fun _ => grown_alloc (grown_refl _ _) _⟩, w1.heap.size, r, a1, n1, c1, a2, n2, c2, rac, rda, HCB.out, rfl, h6, Blk.new _ _ _, RuleP.kept HRP.out (fun b _ hl => Below.heap_alloc _ _ _ hl) (by simp)⟩
        refine wpLooseT_spec rfl rfl (by decide) ?_ (fun vx_5 => ?_)
        · intro w1 hC hd Q1 hQ1
          dsimp only [bare]
          have h4 : ∃ (h : Nat) (r : RN) (a1 : Option Addr) (n1 c1 : Nat) (a2 : Option Addr) (n2 c2 : Nat) (rac rda : Int), (ruleB r = true ∧ Small r) ∧ vx_4 = .slice (some ⟨h, 0, none⟩) 1 1 ∧ w6.heap.size ≤ h ∧ Blk w1 h [.slice a1 n1 c1, .slice a2 n2 c2, .int .i64 rac, .int .i64 rda] 37 ∧ RuleP (fun b => w6.heap.size ≤ b) w1 r [.slice a1 n1 c1, .slice a2 n2 c2, .int .i64 rac, .int .i64 rda] := hd ⟨4, .data⟩ (by simp) rfl _ rfl (by simp [Act.put])
          clear hd
          obtain ⟨h, r, a1, n1, c1, a2, n2, c2, rac, rda, hcb, rfl, hh6, hblk, hRP⟩ := h4
          have HCC : Hid _ := hC
          have HQ : Hid _ := hQ1
          have HCB : Hid _ := hcb
          have HRP : Hid (RuleP (fun b => w6.heap.size ≤ b) w1 r [.slice a1 n1 c1, .slice a2 n2 c2, .int .i64 rac, .int .i64 rda]) := hRP
          have HBK : Hid (Blk w1 h [.slice a1 n1 c1, .slice a2 n2 c2, .int .i64 rac, .int .i64 rda] 37 ∧ w6.heap.size ≤ h ∧ B2 ≤ w1.heap.size) := ⟨hblk, hh6, by have := HJ2.out.2.2.2.2.2.2.2.2; have := HCC.out.1.2.2.2.2.2; omega⟩
          clear hC hQ1 hcb hblk hh6 hRP
          go_wp2_with (at_builtin; refine wpList_append_lies _ rfl _ _ 24 rfl B2 37 j0 (.agg #[.slice none 0 0, .slice none 0 0, .int .i64 0, .int .i64 0]) 4 64 Try.underlying24 ji jz0 jz1 jz2 rfl (by decide) _ _ _ rfl (HCC.out.2 rfl) ⟨h, 0, none⟩ 1 1 [.slice a1 n1 c1, .slice a2 n2 c2, .int .i64 rac, .int .i64 rda] rfl rfl ?c1 ?c2 (by omega) ?c3 ?c4 ?c5 w1.heap.size rfl ?_)
          case c1 => exact fun j u hu => HBK.out.1.cell j u hu
          case c2 => simp [Value.oneCell']
          case c3 => unfold maxLen; omega
          case c4 => omega
          case c5 => exact HBK.out.2.2
          intro g cap' w5 hown5 hgrow5 hat5 hlt5
          obtain ⟨⟨h1, h2, h3, h4, h5, h6⟩, h7⟩ := HCC.out
          have hv1 : ∀ x, v1.ownBlock = some x → B2 ≤ x := fun x hx => (HV.out x hx).1
          have hX1 : some X ≠ v1.ownBlock := fun e => by have := hv1 X e.symm; have := HB2.out.1; omega
          have hR1 : some w.heap.size ≠ v1.ownBlock := fun e => by have := hv1 _ e.symm; have := HB2.out.2.2; omega
          have hP1 : v1.ownBlock ≠ some p := fun e => by have := hv1 _ e; have := HB2.out.2.1; omega
          have hRP5 : RuleP (fun b => w6.heap.size ≤ b ∧ b ≠ g) w5 r [.slice a1 n1 c1, .slice a2 n2 c2, .int .i64 rac, .int .i64 rda] := (RuleP.imp (ψ := fun b => w6.heap.size ≤ b ∧ b ≠ g) HRP.out (fun b hb hl => ⟨hb, by rcases hat5 with h | h; have := (HV.out g h).2; omega; omega⟩)).kept (fun b hb hl => hgrow5.block b hl (fun e => by have := (HV.out b e.symm).2; have := hb.1; omega)) hgrow5.size
          go_wp2_with fail
          exact HQ.out _ _ ⟨⟨⟨h1.kept hgrow5 hP1 (fun b off e hl => fun e2 => by have := hv1 _ e2; have := HC.out.code b off e hl; have := HB2.out.2.2; omega), grown_own h2 hgrow5 (fun x hx => by have := hv1 x hx; have := HB2.out.2.2; omega), h3.grown hgrow5 hR1, h4.grown hgrow5 hX1, h5.grown hgrow5 (fun b hb _ => hb.1.2), Nat.le_trans h6 hgrow5.size⟩, fun hb => by cases hb⟩, ⟨fun _ => hgrow5, fun h => by omega⟩, g, cap', r, _, HCB.out, rfl, hown5, hRP5, by rcases hat5 with h | h; exact .inl h; exact .inr (by omega)⟩
        apply wpLooseT_val rfl rfl (by decide)
        case hs =>
          intro b1 w1 hC hd Q1 hQ1
          dsimp only [bare]
          have q1 := hC.1.2.2.2.1.cell 3 _ rfl
          clear hd
          have HCC : Hid _ := hC
          clear hC
          go_wp2
          exact ⟨HCC.out, ⟨fun h => by omega, fun _ => grown_refl _ _⟩⟩
        case ha => rfl
        refine wpLooseT_nil ?_
        intro wx hCx hFx
        obtain ⟨⟨h1, h2, h3, h4, h5, h6⟩, _⟩ := hCx
        obtain ⟨g, cap', r, l, hcb, rfl, hown, hRP, hat⟩ := (hFx 5 _ rfl (by decide) (by simp) : ∃ (g cap' : Nat) (r : RN) (l : List Value), (ruleB r = true ∧ Small r) ∧ vx_5 = .slice (some ⟨g, 0, none⟩) (k2 + 1) cap' ∧ wx.ownsRow B2 37 4 (.slice (some ⟨g, 0, none⟩) (k2 + 1) cap') (k2 + 1) (flatR ps ++ l) ∧ RuleP (fun b => w6.heap.size ≤ b ∧ b ≠ g) wx r l ∧ (v1.ownBlock = some g ∨ w6.heap.size ≤ g))
        have HK2 : Hid ((ps ++ [(r, l)]).length = k2 + 1 ∧ AllR (ps ++ [(r, l)]) ∧ Blk wx X [.int .i64 62, .int .i64 ac, .int .i64 da, v1] 26 ∧ Blk wx w.heap.size [.int .i64 0, .int .i64 0, .int .i64 0, .slice none 0 0] 26 ∧ RowR (fun b => B2 ≤ b ∧ some b ≠ some g) wx (ps ++ [(r, l)]) ∧ wx.ownsRow B2 37 4 (.slice (some ⟨g, 0, none⟩) (k2 + 1) cap') (k2 + 1) (flatR (ps ++ [(r, l)])) ∧ Cur wx p a len cap ∧ w.grownBy wx (some p) ∧ B2 ≤ wx.heap.size) := by
          have h9 := HJ2.out.2.2.2.2.2.2.2.2
          refine ⟨by simp [HJ2.out.1], HJ2.out.2.1.push hcb.1 hcb.2, h4, h3, ?_, ?_, h1, h2, by omega⟩
          · refine RowR.push (h5.imp fun b hb hl => ⟨hb.1.1, fun e => ?_⟩) (hRP.imp fun b hb hl => ⟨by have := hb.1; omega, fun e => hb.2 (Option.some.inj e)⟩)
            rcases hat with h | h
            · exact hb.1.2 (by rw [e, h])
            · have := Option.some.inj e; have := hb.2; omega
          · rw [← flatR_push]
            exact hown
        have q1 := h4.cell 3 _ rfl
        have fX := h4.free
        clear h1 h2 h3 h4 h5 h6 hown hcb hFx HJ2 HV hRP hat HP6
        go_wp2
        go_roundw
        case rel =>
          obtain ⟨h1, h2, h3, h4, h5, h6, h7, h8, h9⟩ := HK2.out
          exact ⟨k2 + 1, _, _, by go_num, by omega, h1, h2, h3.set 3 _, h4.other (by omega) _ _, h5.set (fun b hb => by have := HB2.out.1; have := hb.1; omega) _ _, ownsRow_setCell_below h6 (by show X < B2; exact HB2.out.1) _, h7.store HC.out (by omega) _ _, grown_store h8 (by omega) _ _, by rw [World.size_setCell]; exact h9⟩
        case measure => simp [intOf]; omega
        case hAx => kernel_rfl
        case hlx => exact ⟨trivial, trivial, trivial, fun i hi v W W' ⟨r, h1, h2⟩ hT => ⟨r, h1, by by_cases h5 : i = 5; exact h2.kept (fun b hb hl => (hT.1 h5).block b hl (fun e => by have := (HV.out b e.symm).2; omega)) (hT.1 h5).size; exact h2.kept (fun b hb hl => (hT.2 h5).block b hl (ne_some (by have := HP6.out; omega))) (hT.2 h5).size⟩, fun i hi v W W' ⟨h, r, a1, n1, c1, a2, n2, c2, rac, rda, e1, e2, e3, e4, e5⟩ hT => ⟨h, r, a1, n1, c1, a2, n2, c2, rac, rda, e1, e2, e3, by by_cases h5 : i = 5; exact e4.grown (hT.1 h5) (fun e => by have := (HV.out h e.symm).2; omega); exact e4.grownP (hT.2 h5) (by have := HP6.out; omega), by by_cases h5 : i = 5; exact e5.kept (fun b hb hl => (hT.1 h5).block b hl (fun e => by have := (HV.out b e.symm).2; omega)) (hT.1 h5).size; exact e5.kept (fun b hb hl => (hT.2 h5).block b hl (ne_some (by have := HP6.out; omega))) (hT.2 h5).size⟩, fun i hi v W W' ⟨g, cap', r, l, e1, e2, e3, e4, e5⟩ hT => ⟨g, cap', r, l, e1, e2, own_grown e3 (hT.2 hi) HB2.out.2.1, e4.kept (fun b hb hl => (hT.2 hi).block b hl (ne_some (by have := HP6.out; have := hb.1; omega))) (hT.2 hi).size, e5⟩, trivial, trivial⟩
      · have bk2 : ¬ ((k2 : Int) < (y2 : Int)) := by omega
        obtain ⟨h1, h2, h3, h4, h5, h6, h7, h8, h9⟩ := HJ2.out
        obtain ⟨a1, c1, rfl, hq⟩ := own_rules h6 h1 (h5.imp (ψ := fun b => B2 ≤ b) fun b hb _ => hb.1) (fun b hb => hb)
        have HRR : Hid (RulesP (fun b => B2 ≤ b) w6 a1 (rulesOf ps)) := hq
        have HRB : Hid (policyB ⟨62, ac, da, rulesOf ps⟩ = true ∧ SmallR (rulesOf ps) ∧ k2 = (rulesOf ps).length) := by
          have hl : (rulesOf ps).length = k2 := by simpa [rulesOf] using h1
          refine ⟨?_, AllR.small (fun q hq => (h2 q hq).2) (by omega), hl.symm⟩
          rw [policyB_if, HO.out, h2.all, hl, decide_eq_true (by omega)]
          rfl
        have HCG : Hid (Cur w6 p a len cap ∧ w.grownBy w6 (some p)) := ⟨h7, h8⟩
        obtain ⟨q0, q1, q2, q3, s0, s1, s2, s3⟩ := (⟨h3.cell 0 _ rfl, h3.cell 1 _ rfl, h3.cell 2 _ rfl, h3.cell 3 _ rfl, h4.cell 0 _ rfl, h4.cell 1 _ rfl, h4.cell 2 _ rfl, h4.cell 3 _ rfl⟩ : _ ∧ _ ∧ _ ∧ _ ∧ _ ∧ _ ∧ _ ∧ _)
        have fR := h4.free
        have hR := h4.lt
        clear h1 h2 h3 h4 h5 h6 h7 h8 h9 hq HJ2 HS2
        go_wp2
        refine bodyPost_ret (v := .agg #[.int .i64 62, .int .i64 ac, .int .i64 da, .slice a1 k2 c1]) (by simp [results, Try.results41, go_sem, *]) rfl ?_
        refine ⟨⟨62, ac, da, rulesOf ps⟩, a1, k2, c1, ac, da, HRB.out.1, HRB.out.2.1, rfl, rfl, rfl, rfl, HRB.out.2.2, ?_, ?_, ?_⟩
        · exact ((((HRR.out.set (fun b hb => by have := HB2.out.2.2; omega) _ _).set (fun b hb => by have := HB2.out.2.2; omega) _ _).set (fun b hb => by have := HB2.out.2.2; omega) _ _).set (fun b hb => by have := HB2.out.2.2; omega) _ _).imp (fun b hb _ => by have := HB2.out.2.2; omega)
        · exact (((HCG.out.1.store HC.out (by omega) _ _).store HC.out (by omega) _ _).store HC.out (by omega) _ _).store HC.out (by omega) _ _
        · exact grown_store (grown_store (grown_store (grown_store HCG.out.2 (by omega) _ _) (by omega) _ _) (by omega) _ _) (by omega) _ _

end Go.Proofs.Ytoknlaaghjlnaaa
