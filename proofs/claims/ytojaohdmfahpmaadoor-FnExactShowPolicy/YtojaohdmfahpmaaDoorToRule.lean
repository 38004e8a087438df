/- What the laws' helpers over rules answer: toRule, eqRule, szRule. -/
import Derived.Test.YtojaohdmfahpmaaDoorToPol
namespace Go.Proofs.YtojaohdmfahpmaaDoor
open Go.RowKit
set_option linter.unusedVariables false

theorem Nums.far {w : World} {b o : Nat} {zs : List Int} (h : Nums w (some ⟨b, o, none⟩) zs) {k : Nat} (i : Nat) (hk : b ≠ k) (v : Value) : Nums (w.setCell ⟨k, i, none⟩ v) (some ⟨b, o, none⟩) zs := h.put (p := i) hk [v]

theorem Conds.far {w : World} {b o : Nat} {cs : List CN} (h : Conds w (some ⟨b, o, none⟩) cs) {k : Nat} (i : Nat) (hk : b ≠ k) (v : Value) : Conds (w.setCell ⟨k, i, none⟩ v) (some ⟨b, o, none⟩) cs := h.put (p := i) hk [v]

/-- The four cells of a rule whose memory lies from block B on. -/
def RuleG (B : Nat) (w : World) (r : RN) (l : List Value) : Prop :=
  ∃ g1 n1 c1 g2 n2 c2, l = [.slice (some ⟨g1, 0, none⟩) n1 c1, .slice (some ⟨g2, 0, none⟩) n2 c2, .int .i64 r.act, .int .i64 r.data] ∧ n1 = r.nums.length ∧ n2 = r.conds.length ∧ B ≤ g1 ∧ B ≤ g2 ∧ Nums w (some ⟨g1, 0, none⟩) r.nums ∧ Conds w (some ⟨g2, 0, none⟩) r.conds ∧ n1 ≤ c1

theorem RuleG.rule {B : Nat} {w : World} {r : RN} {l : List Value} (h : RuleG B w r l) : RuleL w r l := by
  obtain ⟨g1, n1, c1, g2, n2, c2, e, e1, e2, _, _, h1, h2, _⟩ := h
  exact ⟨_, n1, c1, _, n2, c2, e, e1, e2, h1, h2⟩

theorem RuleG.step {B : Nat} {w w' : World} {r : RN} {l : List Value} (h : RuleG B w r l) (hE : Ext w w') : RuleG B w' r l := by
  obtain ⟨g1, n1, c1, g2, n2, c2, e, e1, e2, b1, b2, h1, h2, h3⟩ := h
  exact ⟨g1, n1, c1, g2, n2, c2, e, e1, e2, b1, b2, h1.step hE, h2.step hE, h3⟩

theorem RuleG.mono {B C : Nat} {w : World} {r : RN} {l : List Value} (h : RuleG B w r l) (hC : C ≤ B) : RuleG C w r l := by
  obtain ⟨g1, n1, c1, g2, n2, c2, e, e1, e2, b1, b2, h1, h2, h3⟩ := h
  exact ⟨g1, n1, c1, g2, n2, c2, e, e1, e2, by omega, by omega, h1, h2, h3⟩

theorem RuleG.put {B : Nat} {w : World} {r : RN} {l : List Value} (h : RuleG B w r l) {k : Nat} (hk : k < B) (o : Nat) (vs : List Value) : RuleG B (putL w k o vs) r l := by
  obtain ⟨g1, n1, c1, g2, n2, c2, e, e1, e2, b1, b2, h1, h2, h3⟩ := h
  exact ⟨g1, n1, c1, g2, n2, c2, e, e1, e2, b1, b2, h1.put (by omega) vs, h2.put (by omega) vs, h3⟩

set_option maxRecDepth 100000 in
set_option maxHeartbeats 2000000 in
theorem toRule_any (zs : List Int) (cs : List CN) (act data : Int) (a1 a2 : Option Addr) (n1 n2 c1 c2 : Nat) (w : World) (e1 : n1 = zs.length) (e2 : n2 = cs.length) (l1 : zs.length ≤ 1048576) (l2 : cs.length ≤ 1048576) (h1 : Nums w a1 zs) (h2 : Conds w a2 cs) :
    Calls Tryd.prog 27 #[.agg #[.slice a1 n1 c1, .slice a2 n2 c2, .int .i64 act, .int .i64 data]] w fun e w' => ∃ g1 g2, e = .returned (.agg #[.slice (some ⟨g1, 0, none⟩) n1 n1, .slice (some ⟨g2, 0, none⟩) n2 n2, .int .i64 act, .int .i64 data]) ∧ w.heap.size ≤ g1 ∧ w.heap.size ≤ g2 ∧ Nums w' (some ⟨g1, 0, none⟩) zs ∧ Conds w' (some ⟨g2, 0, none⟩) cs ∧ Ext w w' := by
  have H1 : Hid (∀ W, Ext w W → Calls Tryd.prog 41 #[.slice a1 n1 c1] W fun e w' => ∃ g, e = .returned (.slice (some ⟨g, 0, none⟩) n1 n1) ∧ W.heap.size ≤ g ∧ Nums w' (some ⟨g, 0, none⟩) zs ∧ Ext W w') := fun W hE => toIntS_nums a1 c1 n1 zs W e1 l1 (h1.step hE)
  have H2 : Hid (∀ W, Ext w W → Calls Tryd.prog 42 #[.slice a2 n2 c2] W fun e w' => ∃ g, e = .returned (.slice (some ⟨g, 0, none⟩) n2 n2) ∧ W.heap.size ≤ g ∧ Conds w' (some ⟨g, 0, none⟩) cs ∧ Ext W w') := fun W hE => toCondS_conds a2 c2 n2 cs W e2 l2 (h2.step hE)
  clear h1 h2 l1 l2 e1 e2
  go_enter Tryd.func27, Tryd.ntmps27
  go_wp2_with fail
  refine (H1.out _ (((Ext.one w _).alloc _).alloc _)).mono ?_
  rintro e w1 ⟨g1, rfl, hg1, hz1, x1⟩
  have hgw : w.heap.size + 3 ≤ g1 := by simp at hg1; omega
  have X1 : Hid (Ext w w1) := (((Ext.one w _).alloc _).alloc _).trans x1
  have b1 : Kn w1 w.heap.size [.slice a1 n1 c1, .slice a2 n2 c2, .int .i64 act, .int .i64 data] 48 := (((Kn.new w _ _).alloc _).alloc _).ext x1
  have r1 : Kn w1 (w.heap.size + 1) [.slice none 0 0, .slice none 0 0, .int .i64 0, .int .i64 0] 42 := ((Kn.new' _ _ _ _ (by simp)).alloc _).ext x1
  have o1 : Kn w1 (w.heap.size + 1 + 1) [.slice none 0 0, .slice none 0 0, .int .i64 0, .int .i64 0] 42 := (Kn.new' _ _ _ _ (by simp)).ext x1
  obtain ⟨p1, p2, p3⟩ := (⟨b1.cell 1 _ rfl, o1.cell 0 _ rfl, o1.free 0⟩ : _ ∧ _ ∧ _)
  have hs1 := o1.lt
  have HZ1 : Hid (Nums w1 (some ⟨g1, 0, none⟩) zs) := hz1
  have hg1s : Hid (0 < zs.length → g1 < w1.heap.size) := fun hp => by
    obtain ⟨b, off, e, hb, _⟩ := hz1 hp
    have : g1 = b := by injection e with e; injection e
    omega
  clear x1 hz1 hg1
  go_wp2_with fail
  refine (H2.out _ (X1.out.set (k := w.heap.size + 1 + 1) (by omega) _ _)).mono ?_
  rintro e w2 ⟨g2, rfl, hg2, hz2, x2⟩
  have hgw2 : w.heap.size + 3 ≤ g2 := by simp [World.size_setCell] at hg2; omega
  have X2 : Hid (Ext w w2) := (X1.out.set (k := w.heap.size + 1 + 1) (by omega) _ _).trans x2
  have b2 : Kn w2 w.heap.size [.slice a1 n1 c1, .slice a2 n2 c2, .int .i64 act, .int .i64 data] 48 := (b1.other (by omega) _ _).ext x2
  have r2 : Kn w2 (w.heap.size + 1) [.slice none 0 0, .slice none 0 0, .int .i64 0, .int .i64 0] 42 := (r1.other (by omega) _ _).ext x2
  have o2 : Kn w2 (w.heap.size + 1 + 1) [.slice (some ⟨g1, 0, none⟩) n1 n1, .slice none 0 0, .int .i64 0, .int .i64 0] 42 := (o1.set 0 _).ext x2
  have HZ : Hid (Nums w2 (some ⟨g1, 0, none⟩) zs ∧ Conds w2 (some ⟨g2, 0, none⟩) cs) := ⟨(HZ1.out.far _ (by omega) _).step x2, hz2⟩
  have hs2 := o2.lt
  clear x2 hz2 hg2 p1 p2 p3 b1 r1 o1 HZ1 X1 hg1s hs1
  obtain ⟨p1, p2, p3, p4, p5, p6, p7, p8, p9, p10⟩ := (⟨b2.cell 2 _ rfl, b2.cell 3 _ rfl, o2.cell 0 _ rfl, o2.cell 1 _ rfl, o2.cell 2 _ rfl, o2.cell 3 _ rfl, r2.cell 0 _ rfl, r2.cell 1 _ rfl, r2.cell 2 _ rfl, r2.cell 3 _ rfl⟩ : _ ∧ _ ∧ _ ∧ _ ∧ _ ∧ _ ∧ _ ∧ _ ∧ _ ∧ _)
  have f1 := o2.free
  have f2 := r2.free
  clear b2 r2 o2
  go_wp2
  refine bodyPost_ret (v := .agg #[.slice (some ⟨g1, 0, none⟩) n1 n1, .slice (some ⟨g2, 0, none⟩) n2 n2, .int .i64 act, .int .i64 data]) (by simp [results, Tryd.results27, go_sem, *]) rfl ?_
  refine ⟨g1, g2, rfl, by omega, by omega, ?_, ?_, ?_⟩
  · exact ((((((HZ.out.1.far _ (by omega) _).far _ (by omega) _).far _ (by omega) _).far _ (by omega) _).far _ (by omega) _).far _ (by omega) _).far _ (by omega) _
  · exact ((((((HZ.out.2.far _ (by omega) _).far _ (by omega) _).far _ (by omega) _).far _ (by omega) _).far _ (by omega) _).far _ (by omega) _).far _ (by omega) _
  · have hw := X2.out
    go_grown

theorem toRule_rep {r : RN} {v : Value} {w : World} (hs : Small r) (h : RepRule r v w) : Calls Tryd.prog 27 #[v] w fun e w' => ∃ l, e = .returned (.agg l.toArray) ∧ RuleG w.heap.size w' r l ∧ Ext w w' := by
  obtain ⟨l, rfl, a1, n1, c1, a2, n2, c2, rfl, e1, e2, h1, h2⟩ := h
  refine (toRule_any r.nums r.conds r.act r.data a1 a2 n1 n2 c1 c2 w e1 e2 hs.1 hs.2 h1 h2).mono ?_
  rintro e w' ⟨g1, g2, rfl, hg1, hg2, hz1, hz2, x⟩
  exact ⟨[_, _, _, _], rfl, ⟨g1, n1, n1, g2, n2, n2, rfl, e1, e2, hg1, hg2, hz1, hz2, Nat.le_refl _⟩, x⟩

set_option maxHeartbeats 1000000 in
theorem eqRule_any (zs : List Int) (cs : List CN) (act data : Int) (a1 a2 b1 b2 : Option Addr) (n1 n2 c1 c2 d1 d2 : Nat) (w : World) (e1 : n1 = zs.length) (e2 : n2 = cs.length) (l1 : zs.length ≤ 1048576) (l2 : cs.length ≤ 1048576) (h1 : Nums w a1 zs) (h2 : Conds w a2 cs) (k1 : Nums w b1 zs) (k2 : Conds w b2 cs) :
    Calls Tryd.prog 35 #[.agg #[.slice a1 n1 c1, .slice a2 n2 c2, .int .i64 act, .int .i64 data], .agg #[.slice b1 n1 d1, .slice b2 n2 d2, .int .i64 act, .int .i64 data]] w fun e w' => e = .returned (.bool true) ∧ Ext w w' := by
  have H1 : Hid (∀ W, Ext w W → Calls Tryd.prog 49 #[.slice a1 n1 c1, .slice b1 n1 d1] W fun e w' => e = .returned (.bool true) ∧ Ext W w') := fun W hE => eqIntS_nums a1 b1 c1 d1 n1 zs W e1 l1 (h1.step hE) (k1.step hE)
  have H2 : Hid (∀ W, Ext w W → Calls Tryd.prog 50 #[.slice a2 n2 c2, .slice b2 n2 d2] W fun e w' => e = .returned (.bool true) ∧ Ext W w') := fun W hE => eqCondS_conds a2 b2 c2 d2 n2 cs W e2 l2 (h2.step hE) (k2.step hE)
  clear h1 h2 k1 k2 l1 l2 e1 e2
  go_enter Tryd.func35, Tryd.ntmps35
  go_wp2_with fail
  refine (H1.out _ ((Ext.one w _).alloc _)).mono ?_
  rintro e w1 ⟨rfl, x1⟩
  have X1 : Hid (Ext w w1) := ((Ext.one w _).alloc _).trans x1
  have p1 : Kn w1 w.heap.size [.slice a1 n1 c1, .slice a2 n2 c2, .int .i64 act, .int .i64 data] 42 := ((Kn.new w _ _).alloc _).ext x1
  have p2 : Kn w1 (w.heap.size + 1) [.slice b1 n1 d1, .slice b2 n2 d2, .int .i64 act, .int .i64 data] 42 := (Kn.new' _ _ _ _ (by simp)).ext x1
  obtain ⟨q1, q2⟩ := (⟨p1.cell 1 _ rfl, p2.cell 1 _ rfl⟩ : _ ∧ _)
  clear x1
  go_wp2_with fail
  refine (H2.out _ X1.out).mono ?_
  rintro e w2 ⟨rfl, x2⟩
  have X2 : Hid (Ext w w2) := X1.out.trans x2
  have p3 := p1.ext x2
  have p4 := p2.ext x2
  clear q1 q2 x2 p1 p2
  obtain ⟨q1, q2, q3, q4⟩ := (⟨p3.cell 2 _ rfl, p3.cell 3 _ rfl, p4.cell 2 _ rfl, p4.cell 3 _ rfl⟩ : _ ∧ _ ∧ _ ∧ _)
  clear p3 p4
  go_wp2
  go_ret
  exact ⟨rfl, X2.out⟩

theorem eqRule_rep {r : RN} {v u : Value} {w : World} (hs : Small r) (h : RepRule r v w) (k : RepRule r u w) : Calls Tryd.prog 35 #[v, u] w fun e w' => e = .returned (.bool true) ∧ Ext w w' := by
  obtain ⟨l, rfl, a1, n1, c1, a2, n2, c2, rfl, e1, e2, h1, h2⟩ := h
  obtain ⟨m, rfl, b1, m1, d1, b2, m2, d2, rfl, f1, f2, k1, k2⟩ := k
  obtain rfl : m1 = n1 := by omega
  obtain rfl : m2 = n2 := by omega
  exact eqRule_any r.nums r.conds r.act r.data a1 a2 b1 b2 m1 m2 c1 c2 d1 d2 w e1 e2 hs.1 hs.2 h1 h2 k1 k2

theorem szIntS_left (a : Option Addr) (cap n l : Nat) (w : World) (hl : n ≤ l) (hm : l ≤ 1048576) :
    Calls Tryd.prog 36 #[.slice a n cap, .int .i64 (l : Int)] w fun e w' => e = .returned (.int .i64 ((l - n : Nat) : Int)) ∧ w = w' := by
  have HL : Hid (((l - n : Nat) : Int) = (l : Int) - (n : Int)) := by unfold Hid; omega
  go_enter Tryd.func36, Tryd.ntmps36
  go_wp2
  go_ret
  exact ⟨by rw [HL.out]; rfl, rfl⟩

theorem szIntS_over (a : Option Addr) (cap n l : Nat) (w : World) (hl : l < n) (hm : l ≤ 1048576) (hn : n ≤ 9223372036854775807) :
    Calls Tryd.prog 36 #[.slice a n cap, .int .i64 (l : Int)] w fun e w' => e = .returned (.int .i64 (-1)) ∧ w = w' := by
  go_enter Tryd.func36, Tryd.ntmps36
  go_wp2
  go_ret
  exact ⟨rfl, rfl⟩

theorem szCondS_left (a : Option Addr) (cap n l : Nat) (w : World) (hl : n ≤ l) (hm : l ≤ 1048576) :
    Calls Tryd.prog 37 #[.slice a n cap, .int .i64 (l : Int)] w fun e w' => e = .returned (.int .i64 ((l - n : Nat) : Int)) ∧ w = w' := by
  have HL : Hid (((l - n : Nat) : Int) = (l : Int) - (n : Int)) := by unfold Hid; omega
  go_enter Tryd.func37, Tryd.ntmps37
  go_wp2
  go_ret
  exact ⟨by rw [HL.out]; rfl, rfl⟩

theorem szCondS_over (a : Option Addr) (cap n l : Nat) (w : World) (hl : l < n) (hm : l ≤ 1048576) (hn : n ≤ 9223372036854775807) :
    Calls Tryd.prog 37 #[.slice a n cap, .int .i64 (l : Int)] w fun e w' => e = .returned (.int .i64 (-1)) ∧ w = w' := by
  go_enter Tryd.func37, Tryd.ntmps37
  go_wp2
  go_ret
  exact ⟨rfl, rfl⟩

set_option maxHeartbeats 800000 in
theorem szRule_any (act data : Int) (a1 a2 : Option Addr) (n1 n2 c1 c2 l : Nat) (w : World) (hm : l ≤ 1048576) (m1 : n1 ≤ 9223372036854775807) (m2 : n2 ≤ 9223372036854775807) :
    Calls Tryd.prog 20 #[.agg #[.slice a1 n1 c1, .slice a2 n2 c2, .int .i64 act, .int .i64 data], .int .i64 (l : Int)] w fun e w' => ((e = .returned (.int .i64 (-1))) ∨ ∃ m : Nat, e = .returned (.int .i64 (m : Int)) ∧ m ≤ l ∧ n1 ≤ l ∧ n2 ≤ l) ∧ Ext w w' := by
  have HE : Hid (∀ o, Ext w (w.alloc o)) := fun o => Ext.one w o
  by_cases h1 : n1 ≤ l
  · by_cases h2 : n2 ≤ l - n1
    · obtain ⟨k, hk⟩ : ∃ k, k = l - n1 := ⟨_, rfl⟩
      obtain ⟨j, hj⟩ : ∃ j, j = k - n2 := ⟨_, rfl⟩
      have H1 : Hid (∀ W, Calls Tryd.prog 36 #[.slice a1 n1 c1, .int .i64 (l : Int)] W fun e w' => e = .returned (.int .i64 (k : Int)) ∧ W = w') := fun W => by rw [hk]; exact szIntS_left a1 c1 n1 l W h1 hm
      have H2 : Hid (∀ W, Calls Tryd.prog 37 #[.slice a2 n2 c2, .int .i64 (k : Int)] W fun e w' => e = .returned (.int .i64 (j : Int)) ∧ W = w') := fun W => by rw [hj]; exact szCondS_left a2 c2 n2 k W (by omega) (by omega)
      have HR : Hid (j ≤ l ∧ n1 ≤ l ∧ n2 ≤ l) := by unfold Hid; omega
      clear hk hj h1 h2
      go_enter Tryd.func20, Tryd.ntmps20
      go_wp2_with (first | (go_at_call 36; refine (H1.out _).mono ?_; rintro e w' ⟨rfl, rfl⟩) | (go_at_call 37; refine (H2.out _).mono ?_; rintro e w' ⟨rfl, rfl⟩))
      go_ret
      exact ⟨.inr ⟨j, rfl, HR.out⟩, HE.out _⟩
    · obtain ⟨k, hk⟩ : ∃ k, k = l - n1 := ⟨_, rfl⟩
      have H1 : Hid (∀ W, Calls Tryd.prog 36 #[.slice a1 n1 c1, .int .i64 (l : Int)] W fun e w' => e = .returned (.int .i64 (k : Int)) ∧ W = w') := fun W => by rw [hk]; exact szIntS_left a1 c1 n1 l W h1 hm
      have H2 : Hid (∀ W, Calls Tryd.prog 37 #[.slice a2 n2 c2, .int .i64 (k : Int)] W fun e w' => e = .returned (.int .i64 (-1)) ∧ W = w') := fun W => szCondS_over a2 c2 n2 k W (by omega) (by omega) m2
      clear hk h1 h2
      go_enter Tryd.func20, Tryd.ntmps20
      go_wp2_with (first | (go_at_call 36; refine (H1.out _).mono ?_; rintro e w' ⟨rfl, rfl⟩) | (go_at_call 37; refine (H2.out _).mono ?_; rintro e w' ⟨rfl, rfl⟩))
      go_ret
      exact ⟨.inl rfl, HE.out _⟩
  · have H1 : Hid (∀ W, Calls Tryd.prog 36 #[.slice a1 n1 c1, .int .i64 (l : Int)] W fun e w' => e = .returned (.int .i64 (-1)) ∧ W = w') := fun W => szIntS_over a1 c1 n1 l W (by omega) hm m1
    clear h1
    go_enter Tryd.func20, Tryd.ntmps20
    go_wp2_with (go_at_call 36; refine (H1.out _).mono ?_; rintro e w' ⟨rfl, rfl⟩)
    go_ret
    exact ⟨.inl rfl, HE.out _⟩

end Go.Proofs.YtojaohdmfahpmaaDoor
