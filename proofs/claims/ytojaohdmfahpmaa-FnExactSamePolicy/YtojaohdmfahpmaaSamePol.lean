/- What impl's and spec's SamePolicy answer, of any two policies. -/
import Derived.Test.YtojaohdmfahpmaaSameIS
namespace Go.Proofs.Ytojaohdmfahpmaa
open Go.RowKit
set_option linter.unusedVariables false

set_option maxRecDepth 100000 in
set_option maxHeartbeats 1600000 in
theorem equalFunc_any (a1 a2 : Option Addr) (c1 c2 n m : Nat) (l s : List RN) (w : World) (hn : n = l.length) (hm : m = s.length) (hs1 : SmallR l) (hs2 : SmallR s) (h1 : Rules w a1 l) (h2 : Rules w a2 s) :
    Calls Try.prog 12 #[.slice a1 n c1, .slice a2 m c2, .func (.func 13) #[] #[]] w fun e w' => e = .returned (.bool (decide (n = m) && (List.range n).all fun j => sameRu (l.getD j r0) (s.getD j r0))) ∧ Ext w w' := by
  have hl : n ≤ 1048576 := by rw [hn]; exact hs1.1
  have hl2 : m ≤ 1048576 := by rw [hm]; exact hs2.1
  have HN : Hid (n = l.length ∧ m = s.length ∧ (∀ k, k < l.length → Small (l.getD k r0)) ∧ (∀ k, k < s.length → Small (s.getD k r0))) := ⟨hn, hm, hs1.2, hs2.2⟩
  have HA : Hid (∀ W, Ext w W → Rules W a1 l ∧ Rules W a2 s) := fun W hE => ⟨h1.step hE, h2.step hE⟩
  clear hn hm h1 h2 hs1 hs2
  obtain ⟨Z, hZ⟩ : ∃ Z, Z = (decide (n = m) && (List.range n).all fun j => sameRu (l.getD j r0) (s.getD j r0)) := ⟨_, rfl⟩
  rw [← hZ]
  have HB : Hid (Z = (decide (n = m) && (List.range n).all fun j => sameRu (l.getD j r0) (s.getD j r0))) := hZ
  clear hZ
  by_cases hnm : n = m
  · subst hnm
    have HY : Hid (Z = (List.range n).all fun j => sameRu (l.getD j r0) (s.getD j r0)) := HB.out.trans (by simp)
    clear HB
    go_enter Try.func12, Try.ntmps12
    go_wp2_with fail
    go_loopw [17] (fun i wr => ∃ k : Nat, i = .int .i64 k ∧ k ≤ n ∧ Hid (Ext w wr) ∧ Hid ((List.range k).all (fun j => sameRu (l.getD j r0) (s.getD j r0)) = true)) (fun i _ => n - (intOf i).toNat)
    case atStart => exact ⟨0, rfl, by omega, Ext.refl _, by simp [Hid]⟩
    case round =>
      obtain ⟨k, rfl, hk, hE, hall⟩ := hrel
      by_cases hlt : k < n
      · have bk : (k : Int) < (n : Int) := by omega
        obtain ⟨b1, o1, l1, rfl, s1, hL1⟩ := (HA.out wr hE.out).1.at (k := k) (by have := HN.out.1; omega)
        obtain ⟨b2, o2, l2, rfl, s2, hL2⟩ := (HA.out wr hE.out).2.at (k := k) (by have := HN.out.2.1; omega)
        obtain ⟨x1, n1, d1, y1, m1, e1, xc, xd, rfl, _, _⟩ := hL1.form
        obtain ⟨x2, n2, d2, y2, m2, e2, zc, zd, rfl, _, _⟩ := hL2.form
        obtain ⟨z, hz⟩ : ∃ z, z = sameRu (l.getD k r0) (s.getD k r0) := ⟨_, rfl⟩
        have HZ : Hid (z = sameRu (l.getD k r0) (s.getD k r0)) := hz
        have HT : Hid (∀ W, Ext wr W → Calls Try.prog 13 #[.agg #[.slice x1 n1 d1, .slice y1 m1 e1, .int .i64 xc, .int .i64 xd], .agg #[.slice x2 n2 d2, .slice y2 m2 e2, .int .i64 zc, .int .i64 zd]] W fun e w' => e = .returned (.bool z) ∧ Ext W w') :=
          fun W hx => by rw [hz]; exact sameRule_any (HN.out.2.2.1 k (by have := HN.out.1; omega)) (HN.out.2.2.2 k (by have := HN.out.2.1; omega)) ⟨_, rfl, hL1.step hx⟩ ⟨_, rfl, hL2.step hx⟩
        have s2' := s2.2.below (Ext.one wr (.cells #[.slice x1 n1 d1, .slice y1 m1 e1, .int .i64 xc, .int .i64 xd] 36)) s2.1
        obtain ⟨p0, p1, p2, p3⟩ := s1.2.four
        obtain ⟨q0, q1, q2, q3⟩ := s2'.four
        simp only [List.toArray] at q0 q1 q2 q3
        have hnz : ¬ b2 = wr.heap.size := by have := s2.1; omega
        clear hL1 hL2 hz s1 s2'
        go_wp2_with fail
        refine (HT.out _ ((Ext.one _ _).alloc _)).mono ?_
        rintro e w2 ⟨rfl, y⟩
        have HE2 : Hid (Ext w w2) := hE.out.trans (((Ext.one _ _).alloc _).trans y)
        clear y p0 p1 p2 p3 q0 q1 q2 q3
        cases z
        · have HF : Hid (((List.range n).all fun j => sameRu (l.getD j r0) (s.getD j r0)) = false) := range_bad (k := k) hlt HZ.out.symm
          clear hall
          go_wp2
          go_ret
          exact ⟨by rw [HY.out, HF.out]; rfl, HE2.out⟩
        · have HT : Hid ((List.range (k + 1)).all (fun j => sameRu (l.getD j r0) (s.getD j r0)) = true) := range_more hall.out HZ.out.symm
          clear hall
          go_wp2
          go_roundw
          case rel => exact ⟨k + 1, by go_num, by omega, HE2, HT⟩
          case measure => simp [intOf]; omega
      · obtain rfl : k = n := by omega
        have bk : ¬ ((k : Int) < (k : Int)) := by omega
        go_wp2
        go_ret
        exact ⟨by rw [HY.out, hall.out]; rfl, hE.out⟩
  · have HF : Hid (Z = false) := by rw [HB.out, decide_eq_false hnm]; rfl
    have hne : ((n : Int) == (m : Int)) = false := by simpa using fun h => hnm (by omega)
    clear HB
    go_enter Try.func12, Try.ntmps12
    go_wp2
    go_ret
    exact ⟨by rw [HF.out]; rfl, Ext.refl _⟩

set_option maxRecDepth 100000 in
set_option maxHeartbeats 1600000 in
theorem iSame_rep {p q : PN} {v u : Value} {w : World} (hs : SmallR p.rules) (hs2 : SmallR q.rules) (h : RepPol p v w) (k : RepPol q u w) :
    Calls Try.prog 7 #[v, u] w fun e w' => e = .returned (.bool (sameP p q)) ∧ Ext w w' := by
  obtain ⟨a, cap, rfl, hr⟩ := h
  obtain ⟨b, dap, rfl, kr⟩ := k
  obtain ⟨z, hz⟩ : ∃ z, z = (decide (p.rules.length = q.rules.length) && (List.range p.rules.length).all fun j => sameRu (p.rules.getD j r0) (q.rules.getD j r0)) := ⟨_, rfl⟩
  have H1 : Hid (∀ W, Ext w W → Calls Try.prog 12 #[.slice a p.rules.length cap, .slice b q.rules.length dap, .func (.func 13) #[] #[]] W fun e w' => e = .returned (.bool z) ∧ Ext W w') := fun W hE => by
    rw [hz]; exact equalFunc_any a b cap dap _ _ _ _ W rfl rfl hs hs2 (hr.step hE) (kr.step hE)
  have HB : Hid (sameP p q = (((p.arch == q.arch) && (p.act == q.act) && (p.data == q.data)) && z)) := by rw [hz]; rfl
  clear hz hr kr hs hs2
  generalize sameP p q = Z at *
  obtain ⟨ar, ac, da, rs⟩ := p
  obtain ⟨br, bc, db, ss⟩ := q
  simp only at H1 HB ⊢
  generalize rs.length = n at *
  generalize ss.length = m at *
  by_cases h1 : ar = br
  · subst h1
    by_cases h2 : ac = bc
    · subst h2
      by_cases h3 : da = db
      · subst h3
        have HY : Hid (Z = z) := HB.out.trans (by simp)
        clear HB
        go_enter Try.func7, Try.ntmps7
        go_wp2_with fail
        refine (H1.out _ ((Ext.one _ _).alloc _)).mono ?_
        rintro e w1 ⟨rfl, x1⟩
        have X1 : Hid (Ext w w1) := ((Ext.one _ _).alloc _).trans x1
        clear x1 H1
        go_wp2
        go_ret
        exact ⟨by rw [HY.out]; rfl, X1.out⟩
      · have HY : Hid (Z = false) := HB.out.trans (by simp [h3])
        have hne : (da == db) = false := by simpa using h3
        clear HB
        go_enter Try.func7, Try.ntmps7
        go_wp2
        go_ret
        exact ⟨by rw [HY.out]; rfl, (Ext.one _ _).alloc _⟩
    · have HY : Hid (Z = false) := HB.out.trans (by simp [h2])
      have hne : (ac == bc) = false := by simpa using h2
      clear HB
      go_enter Try.func7, Try.ntmps7
      go_wp2
      go_ret
      exact ⟨by rw [HY.out]; rfl, (Ext.one _ _).alloc _⟩
  · have HY : Hid (Z = false) := HB.out.trans (by simp [h1])
    have hne : (ar == br) = false := by simpa using h1
    clear HB
    go_enter Try.func7, Try.ntmps7
    go_wp2
    go_ret
    exact ⟨by rw [HY.out]; rfl, (Ext.one _ _).alloc _⟩

set_option maxRecDepth 100000 in
set_option maxHeartbeats 3200000 in
theorem sSame_rep {p q : PN} {v u : Value} {w : World} (hs : SmallR p.rules) (hs2 : SmallR q.rules) (h : RepPol p v w) (k : RepPol q u w) :
    Calls Try.prog 5 #[v, u] w fun e w' => e = .returned (.bool (sameP p q)) ∧ Ext w w' := by
  obtain ⟨a, cap, rfl, hr⟩ := h
  obtain ⟨b, dap, rfl, kr⟩ := k
  have HB : Hid (sameP p q = (((p.arch == q.arch) && (p.act == q.act) && (p.data == q.data)) && (decide (p.rules.length = q.rules.length) && (List.range p.rules.length).all fun j => sameRu (p.rules.getD j r0) (q.rules.getD j r0)))) := rfl
  generalize sameP p q = Z at *
  obtain ⟨ar, ac, da, rs⟩ := p
  obtain ⟨br, bc, db, ss⟩ := q
  simp only at HB hs hs2 hr kr ⊢
  obtain ⟨n, hn⟩ : ∃ n, n = rs.length := ⟨_, rfl⟩
  obtain ⟨m, hm⟩ : ∃ m, m = ss.length := ⟨_, rfl⟩
  have hl : n ≤ 1048576 := by rw [hn]; exact hs.1
  have HN : Hid (n = rs.length ∧ m = ss.length ∧ (∀ k, k < rs.length → Small (rs.getD k r0)) ∧ (∀ k, k < ss.length → Small (ss.getD k r0))) := ⟨hn, hm, hs.2, hs2.2⟩
  have HA : Hid (∀ W, Ext w W → Rules W a rs ∧ Rules W b ss) := fun W hE => ⟨hr.step hE, kr.step hE⟩
  rw [← hn, ← hm] at HB
  rw [← hn, ← hm]
  clear hn hm hr kr hs hs2
  by_cases h1 : ar = br
  case neg =>
    have hne : (ar == br) = false := by simpa using h1
    have HY : Hid (Z = false) := HB.out.trans (by simp [h1])
    clear HB
    go_enter Try.func5, Try.ntmps5
    go_wp2
    go_ret
    exact ⟨by rw [HY.out]; rfl, (Ext.one _ _).alloc _⟩
  subst h1
  by_cases h2 : ac = bc
  case neg =>
    have hne : (ac == bc) = false := by simpa using h2
    have HY : Hid (Z = false) := HB.out.trans (by simp [h2])
    clear HB
    go_enter Try.func5, Try.ntmps5
    go_wp2
    go_ret
    exact ⟨by rw [HY.out]; rfl, (Ext.one _ _).alloc _⟩
  subst h2
  by_cases h3 : da = db
  case neg =>
    have hne : (da == db) = false := by simpa using h3
    have HY : Hid (Z = false) := HB.out.trans (by simp [h3])
    clear HB
    go_enter Try.func5, Try.ntmps5
    go_wp2
    go_ret
    exact ⟨by rw [HY.out]; rfl, (Ext.one _ _).alloc _⟩
  subst h3
  by_cases h4 : n = m
  case neg =>
    have hne : ((n : Int) == (m : Int)) = false := by simpa using fun h => h4 (by omega)
    have HY : Hid (Z = false) := HB.out.trans (by simp [h4])
    clear HB
    go_enter Try.func5, Try.ntmps5
    go_wp2
    go_ret
    exact ⟨by rw [HY.out]; rfl, (Ext.one _ _).alloc _⟩
  subst h4
  have HY : Hid (Z = (List.range n).all fun j => sameRu (rs.getD j r0) (ss.getD j r0)) := HB.out.trans (by simp)
  clear HB
  have X : Hid (Ext w ((w.alloc (.cells #[.int .i64 ar, .int .i64 ac, .int .i64 da, .slice a n cap] 29)).alloc (.cells #[.int .i64 ar, .int .i64 ac, .int .i64 da, .slice b n dap] 29))) := (Ext.one _ _).alloc _
  have C1 := (CellsAt.new w [.int .i64 ar, .int .i64 ac, .int .i64 da, .slice a n cap] 29).step (Ext.one _ (.cells #[.int .i64 ar, .int .i64 ac, .int .i64 da, .slice b n dap] 29))
  have C2 := CellsAt.new' (w.alloc (.cells #[.int .i64 ar, .int .i64 ac, .int .i64 da, .slice a n cap] 29)) [.int .i64 ar, .int .i64 ac, .int .i64 da, .slice b n dap] 29 (w.heap.size + 1) (by simp)
  simp only [List.toArray] at C1 C2
  go_enter Try.func5, Try.ntmps5
  go_wp2_with fail
  generalize hW : (w.alloc (.cells #[.int .i64 ar, .int .i64 ac, .int .i64 da, .slice a n cap] 29)).alloc (.cells #[.int .i64 ar, .int .i64 ac, .int .i64 da, .slice b n dap] 29) = W at *
  have HC : Hid (CellsAt W w.heap.size [.int .i64 ar, .int .i64 ac, .int .i64 da, .slice a n cap] ∧ CellsAt W (w.heap.size + 1) [.int .i64 ar, .int .i64 ac, .int .i64 da, .slice b n dap] ∧ Ext w W) := ⟨C1, C2, X.out⟩
  clear C1 C2 X hW
  go_loopw [5] (fun i wr => ∃ k : Nat, i = .int .i64 k ∧ k ≤ n ∧ Hid (Ext w wr) ∧ Hid (Ext W wr) ∧ Hid ((List.range k).all (fun j => sameRu (rs.getD j r0) (ss.getD j r0)) = true)) (fun i _ => n - (intOf i).toNat)
  case atStart => exact ⟨0, rfl, by omega, HC.out.2.2, Ext.refl _, by simp [Hid]⟩
  case round =>
    obtain ⟨k, rfl, hk, hE, hEW, hall⟩ := hrel
    have c1 := (HC.out.1.step hEW.out).2 3 _ rfl
    have c2 := (HC.out.2.1.step hEW.out).2 3 _ rfl
    by_cases hlt : k < n
    · have bk : (k : Int) < (n : Int) := by omega
      obtain ⟨b1, o1, l1, rfl, s1, hL1⟩ := (HA.out wr hE.out).1.at (k := k) (by have := HN.out.1; omega)
      obtain ⟨b2, o2, l2, rfl, s2, hL2⟩ := (HA.out wr hE.out).2.at (k := k) (by have := HN.out.2.1; omega)
      obtain ⟨x1, n1, d1, y1, m1, e1, rfl, g1, g2, N1, K1⟩ := hL1
      obtain ⟨x2, n2, d2, y2, m2, e2, rfl, g3, g4, N2, K2⟩ := hL2
      have sm1 := HN.out.2.2.1 k (by have := HN.out.1; omega)
      have sm2 := HN.out.2.2.2 k (by have := HN.out.2.1; omega)
      obtain ⟨r, hr⟩ : ∃ r, r = rs.getD k r0 := ⟨_, rfl⟩
      obtain ⟨s, hsx⟩ : ∃ s, s = ss.getD k r0 := ⟨_, rfl⟩
      rw [← hr] at g1 g2 N1 K1 sm1 s1
      rw [← hsx] at g3 g4 N2 K2 sm2 s2
      obtain ⟨z1, hz1⟩ : ∃ z, z = sameNs r.nums s.nums := ⟨_, rfl⟩
      have hm1 : m1 ≤ 1048576 := by rw [g2]; exact sm1.2
      have HZ : Hid (sameRu (rs.getD k r0) (ss.getD k r0) = (((r.act == s.act) && (r.data == s.data)) && (z1 && (decide (m1 = m2) && (List.range m1).all fun j => sameC (r.conds.getD j c0) (s.conds.getD j c0))))) := by
        rw [← hr, ← hsx, hz1, g2, g4]; rfl
      have HL : Hid (m1 = r.conds.length ∧ m2 = s.conds.length) := ⟨g2, g4⟩
      have HT : Hid (∀ W, Ext wr W → Calls Try.prog 10 #[.slice x1 n1 d1, .slice x2 n2 d2] W fun e w' => e = .returned (.bool z1) ∧ Ext W w') :=
        fun W hx => by rw [hz1]; exact l10Same_any x1 x2 d1 d2 n1 n2 _ _ W g1 g3 (by rw [g1]; exact sm1.1) (by rw [g3]; exact sm2.1) (N1.step hx) (N2.step hx)
      have HK : Hid (∀ W, Ext wr W → Conds W y1 r.conds ∧ Conds W y2 s.conds) := fun W hx => ⟨K1.step hx, K2.step hx⟩
      clear hr hsx hz1 g1 g2 g3 g4 N1 N2 K1 K2 sm1 sm2
      obtain ⟨rn, rc, ra, rd⟩ := r
      obtain ⟨sn, sc, sa, sd⟩ := s
      simp only at HZ HL HK s1 s2 ⊢
      have c2' := (HC.out.2.1.step (hEW.out.alloc (.cells #[.slice x1 n1 d1, .slice y1 m1 e1, .int .i64 ra, .int .i64 rd] 36))).2 3 _ rfl
      have s2' := s2.2.below (Ext.one wr (.cells #[.slice x1 n1 d1, .slice y1 m1 e1, .int .i64 ra, .int .i64 rd] 36)) s2.1
      obtain ⟨p0, p1, p2, p3⟩ := s1.2.four
      obtain ⟨q0, q1, q2, q3⟩ := s2'.four
      simp only [List.toArray] at q0 q1 q2 q3 c2'
      have B1 := (CellsAt.new wr [.slice x1 n1 d1, .slice y1 m1 e1, .int .i64 ra, .int .i64 rd] 36).step (Ext.one _ (.cells #[.slice x2 n2 d2, .slice y2 m2 e2, .int .i64 sa, .int .i64 sd] 36))
      have B2 := CellsAt.new' (wr.alloc (.cells #[.slice x1 n1 d1, .slice y1 m1 e1, .int .i64 ra, .int .i64 rd] 36)) [.slice x2 n2 d2, .slice y2 m2 e2, .int .i64 sa, .int .i64 sd] 36 (wr.heap.size + 1) (by simp)
      have XB : Hid (Ext wr ((wr.alloc (.cells #[.slice x1 n1 d1, .slice y1 m1 e1, .int .i64 ra, .int .i64 rd] 36)).alloc (.cells #[.slice x2 n2 d2, .slice y2 m2 e2, .int .i64 sa, .int .i64 sd] 36))) := (Ext.one _ _).alloc _
      have hnz : ¬ b2 = wr.heap.size := by have := s2.1; omega
      have hnz2 : ¬ w.heap.size + 1 = wr.heap.size := by have := (HC.out.2.1.step hEW.out).1; omega
      simp only [List.toArray] at B1 B2
      clear s1 s2 s2'
      go_wp2_with fail
      generalize hW3 : (wr.alloc (.cells #[.slice x1 n1 d1, .slice y1 m1 e1, .int .i64 ra, .int .i64 rd] 36)).alloc (.cells #[.slice x2 n2 d2, .slice y2 m2 e2, .int .i64 sa, .int .i64 sd] 36) = W3 at *
      refine (HT.out _ XB.out).mono ?_
      rintro e w1 ⟨rfl, t1⟩
      have X1 : Hid (Ext wr w1) := XB.out.trans t1
      have D1 := B1.step t1
      have D2 := B2.step t1
      clear t1 p0 p1 p2 p3 q0 q1 q2 q3 c1 c2 c2' B1 B2 XB hW3 hnz hnz2
      obtain ⟨p0, p1, p2, p3⟩ := (⟨D1.2 0 _ rfl, D1.2 1 _ rfl, D1.2 2 _ rfl, D1.2 3 _ rfl⟩ : _ ∧ _ ∧ _ ∧ _)
      obtain ⟨q0, q1, q2, q3⟩ := (⟨D2.2 0 _ rfl, D2.2 1 _ rfl, D2.2 2 _ rfl, D2.2 3 _ rfl⟩ : _ ∧ _ ∧ _ ∧ _)
      cases z1
      case false =>
        clear D1 D2
        have HF : Hid (((List.range n).all fun j => sameRu (rs.getD j r0) (ss.getD j r0)) = false) := range_bad (k := k) hlt (by rw [HZ.out]; simp [])
        clear hall
        go_wp2
        go_ret
        exact ⟨by rw [HY.out, HF.out]; rfl, hE.out.trans X1.out⟩
      by_cases h1 : ra = sa
      case neg =>
        have hne : (ra == sa) = false := by simpa using h1
        clear D1 D2
        have HF : Hid (((List.range n).all fun j => sameRu (rs.getD j r0) (ss.getD j r0)) = false) := range_bad (k := k) hlt (by rw [HZ.out]; simp [h1])
        clear hall
        go_wp2
        go_ret
        exact ⟨by rw [HY.out, HF.out]; rfl, hE.out.trans X1.out⟩
      subst h1
      by_cases h2 : rd = sd
      case neg =>
        have hne : (rd == sd) = false := by simpa using h2
        clear D1 D2
        have HF : Hid (((List.range n).all fun j => sameRu (rs.getD j r0) (ss.getD j r0)) = false) := range_bad (k := k) hlt (by rw [HZ.out]; simp [h2])
        clear hall
        go_wp2
        go_ret
        exact ⟨by rw [HY.out, HF.out]; rfl, hE.out.trans X1.out⟩
      subst h2
      by_cases h4 : m1 = m2
      case neg =>
        have hne : ((m1 : Int) == (m2 : Int)) = false := by simpa using fun h => h4 (by omega)
        clear D1 D2
        have HF : Hid (((List.range n).all fun j => sameRu (rs.getD j r0) (ss.getD j r0)) = false) := range_bad (k := k) hlt (by rw [HZ.out]; simp [h4])
        clear hall
        go_wp2
        go_ret
        exact ⟨by rw [HY.out, HF.out]; rfl, hE.out.trans X1.out⟩
      subst h4
      have HZ2 : Hid (sameRu (rs.getD k r0) (ss.getD k r0) = ((List.range m1).all fun j => sameC (rc.getD j c0) (sc.getD j c0))) := HZ.out.trans (by simp)
      have HD : Hid (CellsAt w1 wr.heap.size [.slice x1 n1 d1, .slice y1 m1 e1, .int .i64 ra, .int .i64 rd] ∧ CellsAt w1 (wr.heap.size + 1) [.slice x2 n2 d2, .slice y2 m1 e2, .int .i64 ra, .int .i64 rd]) := ⟨D1, D2⟩
      clear HZ D1 D2
      have XW : Hid (Ext w w1 ∧ Ext W w1) := ⟨hE.out.trans X1.out, hEW.out.trans X1.out⟩
      have HK1 : Hid (∀ V, Ext w1 V → Conds V y1 rc ∧ Conds V y2 sc) := fun V hx => HK.out V (X1.out.trans hx)
      clear HK HT X1 hE hEW
      go_wp2_with fail
      clear p0 p1 p2 p3 q0 q1 q2 q3
      generalize wr.heap.size = g at *
      go_loopw [8] (fun i wr2 => ∃ j : Nat, i = .int .i64 j ∧ j ≤ m1 ∧ Hid (Ext w1 wr2) ∧ Hid ((List.range j).all (fun j => sameC (rc.getD j c0) (sc.getD j c0)) = true)) (fun i _ => m1 - (intOf i).toNat)
      case atStart => exact ⟨0, rfl, by omega, Ext.refl _, by simp [Hid]⟩
      case round =>
        obtain ⟨j, rfl, hj, hE2, hal2⟩ := hrel
        have dd1 := HD.out.1.step hE2.out
        have dd2 := HD.out.2.step hE2.out
        have p1 := dd1.2 1 _ rfl
        have q1 := dd2.2 1 _ rfl
        by_cases hlt2 : j < m1
        · have bk2 : (j : Int) < (m1 : Int) := by omega
          obtain ⟨x, hx⟩ : ∃ x, x = rc.getD j c0 := ⟨_, rfl⟩
          obtain ⟨y, hy⟩ : ∃ y, y = sc.getD j c0 := ⟨_, rfl⟩
          obtain ⟨f1, o1, rfl, g1, t1⟩ := (HK1.out wr hE2.out).1.at (k := j) (by have := HL.out.1; omega) hx
          obtain ⟨f2, o2, rfl, g2, t2⟩ := (HK1.out wr hE2.out).2.at (k := j) (by have := HL.out.2; omega) hy
          obtain ⟨z, hz⟩ : ∃ z, z = sameC x y := ⟨_, rfl⟩
          have HQ : Hid (z = sameC (rc.getD j c0) (sc.getD j c0)) := by unfold Hid; rw [hz, hx, hy]
          clear hx hy
          obtain ⟨ag, mh, ml, cm, vh, vl⟩ := x
          obtain ⟨ag', mh', ml', cm', vh', vl'⟩ := y
          have S1 : Hid ((SegB wr f1 (o1 + j * 6) [.int .i64 ag, .int .i64 mh, .int .i64 ml, .int .i64 cm, .int .i64 vh, .int .i64 vl] ∧ SegB wr f2 (o2 + j * 6) [.int .i64 ag', .int .i64 mh', .int .i64 ml', .int .i64 cm', .int .i64 vh', .int .i64 vl']) ∧ (CellsAt wr g [.slice x1 n1 d1, .slice (some ⟨f1, o1, none⟩) m1 e1, .int .i64 ra, .int .i64 rd] ∧ CellsAt wr (g + 1) [.slice x2 n2 d2, .slice (some ⟨f2, o2, none⟩) m1 e2, .int .i64 ra, .int .i64 rd])) := ⟨⟨⟨g1, t1⟩, ⟨g2, t2⟩⟩, ⟨dd1, dd2⟩⟩
          have hEq := eq_condN ag mh ml cm vh vl ag' mh' ml' cm' vh' vl'
          rw [← hz] at hEq
          clear hz t1 t2 g1 g2 q1 dd1 dd2
          go_wp2_with fail
          clear p1
          refine' wp_region_loose (.inl _ :: .inl _ :: .inl _ :: .inl _ :: .inl _ :: .inl _ :: .inl _ :: .inl _ :: .inl _ :: .inl _ :: .inl _ :: []) (fun w' => (SegB w' f1 (o1 + j * 6) [.int .i64 ag, .int .i64 mh, .int .i64 ml, .int .i64 cm, .int .i64 vh, .int .i64 vl] ∧ SegB w' f2 (o2 + j * 6) [.int .i64 ag', .int .i64 mh', .int .i64 ml', .int .i64 cm', .int .i64 vh', .int .i64 vl']) ∧ (CellsAt w' g [.slice x1 n1 d1, .slice (some ⟨f1, o1, none⟩) m1 e1, .int .i64 ra, .int .i64 rd] ∧ CellsAt w' (g + 1) [.slice x2 n2 d2, .slice (some ⟨f2, o2, none⟩) m1 e2, .int .i64 ra, .int .i64 rd])) (by kernel_rfl) (by kernel_rfl) (S1.out) (fun _ _ h hE => ⟨⟨h.1.1.step hE, h.1.2.step hE⟩, ⟨h.2.1.step hE, h.2.2.step hE⟩⟩) ?hAb ?hlb ?hMb
          case' hMb => skip
          apply wpLoose_val rfl rfl
          case hs =>
            intro w1 hC hd Q1 hQ1
            obtain ⟨hE, hS⟩ := hC
            dsimp only [bare]
            obtain ⟨⟨⟨p0, p1, p2, p3, p4, p5⟩, ⟨q0, q1, q2, q3, q4, q5⟩⟩, r1, r2⟩ := (⟨⟨hS.1.1.2.six, hS.1.2.2.six⟩, hS.2.1.2 1 _ rfl, hS.2.2.2 1 _ rfl⟩ : (_ ∧ _) ∧ _ ∧ _)
            clear hd hE
            try clear hS
            go_wp2
            exact Ext.refl _
          case ha => rfl
          apply wpLoose_val rfl rfl
          case hs =>
            intro w1 hC hd Q1 hQ1
            obtain ⟨hE, hS⟩ := hC
            dsimp only [bare]
            obtain ⟨⟨⟨p0, p1, p2, p3, p4, p5⟩, ⟨q0, q1, q2, q3, q4, q5⟩⟩, r1, r2⟩ := (⟨⟨hS.1.1.2.six, hS.1.2.2.six⟩, hS.2.1.2 1 _ rfl, hS.2.2.2 1 _ rfl⟩ : (_ ∧ _) ∧ _ ∧ _)
            clear hd hE
            try clear hS
            go_wp2
            exact Ext.refl _
          case ha => rfl
          apply wpLoose_val rfl rfl
          case hs =>
            intro w1 hC hd Q1 hQ1
            obtain ⟨hE, hS⟩ := hC
            dsimp only [bare]
            obtain ⟨⟨⟨p0, p1, p2, p3, p4, p5⟩, ⟨q0, q1, q2, q3, q4, q5⟩⟩, r1, r2⟩ := (⟨⟨hS.1.1.2.six, hS.1.2.2.six⟩, hS.2.1.2 1 _ rfl, hS.2.2.2 1 _ rfl⟩ : (_ ∧ _) ∧ _ ∧ _)
            clear hd hE
            try clear hS
            go_wp2
            exact Ext.refl _
          case ha => rfl
          apply wpLoose_val rfl rfl
          case hs =>
            intro w1 hC hd Q1 hQ1
            obtain ⟨hE, hS⟩ := hC
            dsimp only [bare]
            obtain ⟨⟨⟨p0, p1, p2, p3, p4, p5⟩, ⟨q0, q1, q2, q3, q4, q5⟩⟩, r1, r2⟩ := (⟨⟨hS.1.1.2.six, hS.1.2.2.six⟩, hS.2.1.2 1 _ rfl, hS.2.2.2 1 _ rfl⟩ : (_ ∧ _) ∧ _ ∧ _)
            clear hd hE
            try clear hS
            go_wp2
            exact Ext.refl _
          case ha => rfl
          apply wpLoose_val rfl rfl
          case hs =>
            intro w1 hC hd Q1 hQ1
            obtain ⟨hE, hS⟩ := hC
            dsimp only [bare]
            obtain ⟨⟨⟨p0, p1, p2, p3, p4, p5⟩, ⟨q0, q1, q2, q3, q4, q5⟩⟩, r1, r2⟩ := (⟨⟨hS.1.1.2.six, hS.1.2.2.six⟩, hS.2.1.2 1 _ rfl, hS.2.2.2 1 _ rfl⟩ : (_ ∧ _) ∧ _ ∧ _)
            clear hd hE
            try clear hS
            go_wp2
            exact Ext.refl _
          case ha => rfl
          apply wpLoose_val rfl rfl
          case hs =>
            intro w1 hC hd Q1 hQ1
            obtain ⟨hE, hS⟩ := hC
            dsimp only [bare]
            obtain ⟨⟨⟨p0, p1, p2, p3, p4, p5⟩, ⟨q0, q1, q2, q3, q4, q5⟩⟩, r1, r2⟩ := (⟨⟨hS.1.1.2.six, hS.1.2.2.six⟩, hS.2.1.2 1 _ rfl, hS.2.2.2 1 _ rfl⟩ : (_ ∧ _) ∧ _ ∧ _)
            clear hd hE
            try clear hS
            go_wp2
            exact Ext.refl _
          case ha => rfl
          apply wpLoose_val rfl rfl
          case hs =>
            intro w1 hC hd Q1 hQ1
            obtain ⟨hE, hS⟩ := hC
            dsimp only [bare]
            obtain ⟨⟨⟨p0, p1, p2, p3, p4, p5⟩, ⟨q0, q1, q2, q3, q4, q5⟩⟩, r1, r2⟩ := (⟨⟨hS.1.1.2.six, hS.1.2.2.six⟩, hS.2.1.2 1 _ rfl, hS.2.2.2 1 _ rfl⟩ : (_ ∧ _) ∧ _ ∧ _)
            clear hd hE
            try clear hS
            go_wp2
            exact Ext.refl _
          case ha => rfl
          apply wpLoose_val rfl rfl
          case hs =>
            intro w1 hC hd Q1 hQ1
            obtain ⟨hE, hS⟩ := hC
            dsimp only [bare]
            obtain ⟨⟨⟨p0, p1, p2, p3, p4, p5⟩, ⟨q0, q1, q2, q3, q4, q5⟩⟩, r1, r2⟩ := (⟨⟨hS.1.1.2.six, hS.1.2.2.six⟩, hS.2.1.2 1 _ rfl, hS.2.2.2 1 _ rfl⟩ : (_ ∧ _) ∧ _ ∧ _)
            clear hd hE
            try clear hS
            go_wp2
            exact Ext.refl _
          case ha => rfl
          apply wpLoose_val rfl rfl
          case hs =>
            intro w1 hC hd Q1 hQ1
            obtain ⟨hE, hS⟩ := hC
            dsimp only [bare]
            obtain ⟨⟨⟨p0, p1, p2, p3, p4, p5⟩, ⟨q0, q1, q2, q3, q4, q5⟩⟩, r1, r2⟩ := (⟨⟨hS.1.1.2.six, hS.1.2.2.six⟩, hS.2.1.2 1 _ rfl, hS.2.2.2 1 _ rfl⟩ : (_ ∧ _) ∧ _ ∧ _)
            clear hd hE
            try clear hS
            go_wp2
            exact Ext.refl _
          case ha => rfl
          apply wpLoose_val rfl rfl
          case hs =>
            intro w1 hC hd Q1 hQ1
            obtain ⟨hE, hS⟩ := hC
            dsimp only [bare]
            obtain ⟨⟨⟨p0, p1, p2, p3, p4, p5⟩, ⟨q0, q1, q2, q3, q4, q5⟩⟩, r1, r2⟩ := (⟨⟨hS.1.1.2.six, hS.1.2.2.six⟩, hS.2.1.2 1 _ rfl, hS.2.2.2 1 _ rfl⟩ : (_ ∧ _) ∧ _ ∧ _)
            clear hd hE
            try clear hS
            go_wp2
            exact Ext.refl _
          case ha => rfl
          apply wpLoose_val rfl rfl
          case hs =>
            intro w1 hC hd Q1 hQ1
            obtain ⟨hE, hS⟩ := hC
            dsimp only [bare]
            obtain ⟨⟨⟨p0, p1, p2, p3, p4, p5⟩, ⟨q0, q1, q2, q3, q4, q5⟩⟩, r1, r2⟩ := (⟨⟨hS.1.1.2.six, hS.1.2.2.six⟩, hS.2.1.2 1 _ rfl, hS.2.2.2 1 _ rfl⟩ : (_ ∧ _) ∧ _ ∧ _)
            clear hd hE
            try clear hS
            go_wp2
            exact Ext.refl _
          case ha => rfl
          refine wpLoose_nil ?_
          intro wb hEb hSb hFb
          · have HE3 : Hid (Ext w1 wb) := hE2.out.drew.trans hEb
            clear hFb hSb hEb S1 hEq
            cases z
            · have HF : Hid (((List.range n).all fun j => sameRu (rs.getD j r0) (ss.getD j r0)) = false) := range_bad (k := k) hlt (by rw [HZ2.out]; exact range_bad (k := j) hlt2 HQ.out.symm)
              clear hall hal2
              go_wp2
              go_ret
              exact ⟨by rw [HY.out, HF.out]; rfl, XW.out.1.trans HE3.out⟩
            · have HT : Hid ((List.range (j + 1)).all (fun j => sameC (rc.getD j c0) (sc.getD j c0)) = true) := range_more hal2.out HQ.out.symm
              clear hal2
              go_wp2
              go_roundw
              case rel => exact ⟨j + 1, by go_num, by omega, HE3, HT⟩
              case measure => simp [intOf]; omega
          case hAb => kernel_rfl
          case hlb => exact ⟨trivial, trivial, trivial, trivial, trivial, trivial, trivial, trivial, trivial, trivial, trivial, trivial⟩
        · obtain rfl : j = m1 := by omega
          have bk2 : ¬ ((j : Int) < (j : Int)) := by omega
          have HT : Hid ((List.range (k + 1)).all (fun j => sameRu (rs.getD j r0) (ss.getD j r0)) = true) := range_more hall.out (HZ2.out.trans hal2.out)
          clear hall hal2 dd1 dd2
          go_wp2
          go_roundw
          case rel => exact ⟨k + 1, by go_num, by omega, XW.out.1.trans hE2.out, XW.out.2.trans hE2.out, HT⟩
          case measure => simp [intOf]; omega
    · obtain rfl : k = n := by omega
      have bk : ¬ ((k : Int) < (k : Int)) := by omega
      go_wp2
      go_ret
      exact ⟨by rw [HY.out, hall.out]; rfl, hE.out⟩

end Go.Proofs.Ytojaohdmfahpmaa
