/- What the laws' helpers over slices of rules answer: toRuleS. -/
import Derived.Test.YtojaohdmfahpmaaDoorToRule
import Derived.Test.YtojaohdmfahpmaaDoorPolI
namespace Go.Proofs.YtojaohdmfahpmaaDoor
open Go.RowKit
set_option linter.unusedVariables false

theorem Tryd.infoRu : (Tryd.prog.info? 42).map (fun i => (i.zero, i.size, i.bytes)) = some (some (.agg #[.slice none 0 0, .slice none 0 0, .int .i64 0, .int .i64 0]), 4, 64) := by kernel_rfl

/-- Rules at block g's head, all their memory from block B on. -/
def RulesG (B g : Nat) (w : World) (rs : List RN) : Prop :=
  B ≤ g ∧ (0 < rs.length → g < w.heap.size) ∧ ∀ j, j < rs.length → ∃ l, Seg w g (j * 4) l ∧ RuleG B w (rs.getD j r0) l

theorem RulesG.mono {B C g : Nat} {w : World} {rs : List RN} (h : RulesG B g w rs) (hC : C ≤ B) : RulesG C g w rs :=
  ⟨by have := h.1; omega, h.2.1, fun j hj => by
    obtain ⟨l, s1, s2⟩ := h.2.2 j hj
    exact ⟨l, s1, s2.mono hC⟩⟩

theorem RulesG.rules {B g : Nat} {w : World} {rs : List RN} (h : RulesG B g w rs) : Rules w (some ⟨g, 0, none⟩) rs := fun hp =>
  ⟨g, 0, rfl, h.2.1 hp, fun j hj => by
    obtain ⟨l, s1, s2⟩ := h.2.2 j hj
    exact ⟨l, by rw [Nat.zero_add]; exact s1, s2.rule⟩⟩

/-- Rules in memory, each slice of numbers being no longer than it may grow. -/
def RulesC (w : World) (a : Option Addr) (rs : List RN) : Prop :=
  Rules w a rs ∧ ∀ b off j x n c, a = some ⟨b, off, none⟩ → j < rs.length → w.cell? ⟨b, off + j * 4, none⟩ = some (.slice x n c) → n ≤ c

theorem RulesC.step {w w' : World} {a : Option Addr} {rs : List RN} (h : RulesC w a rs) (hE : Ext w w') : RulesC w' a rs := by
  refine ⟨h.1.step hE, fun b off j x n c ha hj hc => h.2 b off j x n c ha hj ?_⟩
  obtain ⟨b', off', ha', hb, _⟩ := h.1 (by omega)
  rw [ha] at ha'
  obtain rfl : b = b' := by injection ha' with ha'; injection ha'
  rw [← hc]
  exact (hE.cell (p := ⟨b, off + j * 4, none⟩) hb).symm

theorem RulesG.rulesC {B g : Nat} {w : World} {rs : List RN} (h : RulesG B g w rs) : RulesC w (some ⟨g, 0, none⟩) rs := by
  refine ⟨h.rules, fun b off j x n c ha hj hc => ?_⟩
  obtain ⟨rfl, rfl⟩ : g = b ∧ 0 = off := by injection ha with ha; injection ha with h1 h2; exact ⟨h1, h2⟩
  obtain ⟨l, s1, g1, n1, c1, g2, n2, c2, rfl, _, _, _, _, _, _, h3⟩ := h.2.2 j hj
  have := s1 0 _ rfl
  rw [Nat.add_zero] at this
  rw [Nat.zero_add, this] at hc
  injection hc with hc
  injection hc with _ e1 e2
  omega

theorem RulesG.set {B g : Nat} {w : World} {rs : List RN} (h : RulesG B g w rs) {k : Nat} (i : Nat) (hk : k < B) (v : Value) : RulesG B g (w.setCell ⟨k, i, none⟩ v) rs :=
  ⟨h.1, fun hp => by rw [World.size_setCell]; exact h.2.1 hp, fun j hj => by
    obtain ⟨l, s1, s2⟩ := h.2.2 j hj
    exact ⟨l, s1.putFar (vs := [v]) (.inl (by have := h.1; omega)), s2.put hk i [v]⟩⟩

set_option maxRecDepth 100000 in
set_option maxHeartbeats 2000000 in
theorem toRuleS_any (a : Option Addr) (cap n : Nat) (rs : List RN) (w : World) (hn : n = rs.length) (hs : SmallR rs) (h : Rules w a rs) :
    Calls Tryd.prog 14 #[.slice a n cap] w fun e w' => ∃ g, e = .returned (.slice (some ⟨g, 0, none⟩) n n) ∧ w.heap.size ≤ g ∧ RulesG w.heap.size g w' rs ∧ Ext w w' := by
  obtain ⟨i0, hi, hz0, hz1, hz2⟩ := info_parts Tryd.infoRu
  have HN : Hid (n = rs.length ∧ ∀ k, k < rs.length → Small (rs.getD k r0)) := ⟨hn, hs.2⟩
  have HA : Hid (∀ W, Ext w W → Rules W a rs) := fun W hE => h.step hE
  have hl' : n ≤ 1048576 := by have := hs.1; omega
  clear h hn hs
  go_enter Tryd.func14, Tryd.ntmps14
  go_wp2_with (at_make; refine wpList_make_full _ rfl _ _ 28 rfl w.heap.size 42 i0 (.agg #[.slice none 0 0, .slice none 0 0, .int .i64 0, .int .i64 0]) 4 Tryd.underlying28 hi hz0 hz1 _ _ _ _ n rfl rfl (by omega) (by omega) (by rw [hz2]; omega) (by unfold maxLen; omega) (Nat.le_refl _) ?_; intro w0 hown0 hgrow0)
  have b0 : Hid (Ext w w0) := (Below.refl _ w).grown hgrow0 (Nat.le_refl _) (fun k hk => by cases hk)
  have m0 : FreeN w0 w.heap.size (n * 4) := made_free hown0 (by simp [madeCells])
  clear hown0 hgrow0
  obtain ⟨g, hg⟩ : ∃ g, g = w.heap.size := ⟨_, rfl⟩
  rw [← hg] at m0 ⊢
  have HG : Hid (g = w.heap.size ∧ FreeN w0 g (n * 4)) := ⟨hg, m0⟩
  clear hg m0
  go_loopw [4] (fun i wr => ∃ k : Nat, i = .int .i64 k ∧ k ≤ n ∧ Hid (Ext w wr ∧ FreeN wr g (n * 4) ∧ ∀ j, j < k → ∃ l, Seg wr g (j * 4) l ∧ l.length = 4 ∧ RuleG (g + 1) wr (rs.getD j r0) l)) (fun i _ => n - (intOf i).toNat)
  case atStart => exact ⟨0, rfl, by omega, b0.out, HG.out.2, fun j hj => by omega⟩
  case round =>
    obtain ⟨k, rfl, hk, HR⟩ := hrel
    clear b0
    by_cases hlt : k < n
    · have bk : (k : Int) < (n : Int) := by omega
      obtain ⟨b, off, l, rfl, ⟨hbl, hseg⟩, hL⟩ := (HA.out wr HR.out.1).at (k := k) (by have := HN.out.1; omega)
      obtain ⟨a1, n1, c1, a2, n2, c2, xc, xd, rfl, _, _⟩ := hL.form
      obtain ⟨p0, p1, p2, p3⟩ := hseg.four
      have HT : Hid (Calls Tryd.prog 27 #[.agg #[.slice a1 n1 c1, .slice a2 n2 c2, .int .i64 xc, .int .i64 xd]] wr fun e w' => ∃ g1 m1 d1 g2 m2 d2 ac da, e = .returned (.agg #[.slice (some ⟨g1, 0, none⟩) m1 d1, .slice (some ⟨g2, 0, none⟩) m2 d2, .int .i64 ac, .int .i64 da]) ∧ RuleG (g + 1) w' (rs.getD k r0) [.slice (some ⟨g1, 0, none⟩) m1 d1, .slice (some ⟨g2, 0, none⟩) m2 d2, .int .i64 ac, .int .i64 da] ∧ Ext wr w') := by
        refine (toRule_rep (HN.out.2 k (by have := HN.out.1; omega)) ⟨_, rfl, hL⟩).mono ?_
        rintro e w' ⟨l, rfl, hG, x⟩
        have hGG : RuleG (g + 1) w' (rs.getD k r0) l := hG.mono (by have := HR.out.2.1.1; omega)
        obtain ⟨g1, m1, d1, g2, m2, d2, rfl, _⟩ := hG
        exact ⟨g1, m1, d1, g2, m2, d2, _, _, rfl, hGG, x⟩
      clear hL hseg hbl
      go_wp2_with fail
      refine HT.out.mono ?_
      rintro e w2 ⟨g1, m1, e1, g2, m2, e2, ac, da, rfl, hGG, x2⟩
      have HR2 : Hid (Ext w w2 ∧ FreeN w2 g (n * 4) ∧ (∀ j, j < k → ∃ l, Seg w2 g (j * 4) l ∧ l.length = 4 ∧ RuleG (g + 1) w2 (rs.getD j r0) l) ∧ RuleG (g + 1) w2 (rs.getD k r0) [.slice (some ⟨g1, 0, none⟩) m1 e1, .slice (some ⟨g2, 0, none⟩) m2 e2, .int .i64 ac, .int .i64 da]) :=
        ⟨HR.out.1.trans x2, HR.out.2.1.step x2, fun j hj => by
          obtain ⟨l, s1, s2, s3⟩ := HR.out.2.2 j hj
          exact ⟨l, s1.below x2 HR.out.2.1.1, s2, s3.step x2⟩, hGG⟩
      obtain ⟨⟨u0, d0⟩, f0⟩ := HR2.out.2.1.2 (k * 4) (by omega)
      obtain ⟨⟨u1, d1'⟩, f1⟩ := HR2.out.2.1.2 (k * 4 + 1) (by omega)
      obtain ⟨⟨u2, d2'⟩, f2⟩ := HR2.out.2.1.2 (k * 4 + 2) (by omega)
      obtain ⟨⟨u3, d3⟩, f3⟩ := HR2.out.2.1.2 (k * 4 + 3) (by omega)
      clear x2 HR p0 p1 p2 p3 hGG HT
      go_wp2
      go_roundw
      case rel =>
        obtain ⟨hE, hF, hC, hG⟩ := HR2.out
        rw [← putL4]
        refine ⟨k + 1, by go_num, by omega, Below.putL (by have := HG.out.1; omega) _ _ hE, hF.put g _ _, fun j hj => ?_⟩
        by_cases hjk : j = k
        · subst hjk
          exact ⟨_, hF.seg (by simp; omega), rfl, hG.put (by omega) _ _⟩
        · obtain ⟨l, s1, s2, s3⟩ := hC j (by omega)
          refine ⟨l, s1.putFar (.inr ?_), s2, s3.put (by omega) _ _⟩
          rw [s2]
          simp; omega
      case measure => simp [intOf]; omega
    · have hkn : k = n := by omega
      have bk : ¬ ((k : Int) < (n : Int)) := by omega
      have HE : Hid (w.heap.size ≤ g ∧ RulesG w.heap.size g wr rs ∧ Ext w wr) :=
        ⟨by have := HG.out.1; omega, ⟨by have := HG.out.1; omega, fun _ => HR.out.2.1.1, fun j hj => by
          obtain ⟨l, s1, s2, s3⟩ := HR.out.2.2 j (by have := HN.out.1; omega)
          exact ⟨l, s1, s3.mono (by have := HG.out.1; omega)⟩⟩, HR.out.1⟩
      clear hkn HR
      go_wp2
      go_ret
      exact ⟨g, rfl, HE.out.1, HE.out.2⟩

end Go.Proofs.YtojaohdmfahpmaaDoor
