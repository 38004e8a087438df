/- Whether two policies are the same: impl's and spec's functions over rows of numbers and of conditions, and over rules. -/
import Derived.Test.YtojaohdmfahpmaaToPolicy
namespace Go.Proofs.Ytojaohdmfahpmaa
open Go.RowKit
set_option linter.unusedVariables false

def sameC (c d : CN) : Bool := (c.arg == d.arg) && (decide ((c.mh, c.ml) = (d.mh, d.ml)) && ((c.cm == d.cm) && decide ((c.vh, c.vl) = (d.vh, d.vl))))

def sameNs (l m : List Int) : Bool := decide (l.length = m.length) && (List.range l.length).all fun j => l.getD j 0 == m.getD j 0

def sameCs (l m : List CN) : Bool := decide (l.length = m.length) && (List.range l.length).all fun j => sameC (l.getD j c0) (m.getD j c0)

def sameRu (r s : RN) : Bool := ((r.act == s.act) && (r.data == s.data)) && (sameNs r.nums s.nums && sameCs r.conds s.conds)

def sameP (p q : PN) : Bool := ((p.arch == q.arch) && (p.act == q.act) && (p.data == q.data)) && (decide (p.rules.length = q.rules.length) && (List.range p.rules.length).all fun j => sameRu (p.rules.getD j r0) (q.rules.getD j r0))

theorem range_more {f : Nat → Bool} {k : Nat} (h : (List.range k).all f = true) (hk : f k = true) : (List.range (k + 1)).all f = true := by
  rw [List.range_succ, List.all_append, h]
  simp [hk]

theorem range_bad {f : Nat → Bool} {n k : Nat} (hk : k < n) (h : f k = false) : (List.range n).all f = false := by
  rw [Bool.eq_false_iff]
  intro ha
  have := List.all_eq_true.1 ha k (List.mem_range.2 hk)
  rw [h] at this
  exact Bool.noConfusion this

theorem fieldsWd : ∃ f g : Field, Try.prog.fieldsOf 39 = #[f, g] ∧ Try.prog.underlying 39 = some (.struct #[f, g]) ∧ f.name ≠ "_" ∧ f.type = 3 ∧ f.offset = 0 ∧ g.name ≠ "_" ∧ g.type = 3 ∧ g.offset = 1 := by
  refine ⟨_, _, ?_, Try.underlying39, by decide, rfl, rfl, by decide, rfl, rfl⟩
  unfold Program.fieldsOf
  rw [Try.underlying39]

theorem fieldsCd : ∃ f g h i : Field, Try.prog.fieldsOf 41 = #[f, g, h, i] ∧ Try.prog.underlying 41 = some (.struct #[f, g, h, i]) ∧ (f.name ≠ "_" ∧ f.type = 3 ∧ f.offset = 0) ∧ (g.name ≠ "_" ∧ g.type = 39 ∧ g.offset = 1) ∧ (h.name ≠ "_" ∧ h.type = 3 ∧ h.offset = 3) ∧ (i.name ≠ "_" ∧ i.type = 39 ∧ i.offset = 4) := by
  refine ⟨_, _, _, _, ?_, Try.underlying41, ⟨by decide, rfl, rfl⟩, ⟨by decide, rfl, rfl⟩, ⟨by decide, rfl, rfl⟩, ⟨by decide, rfl, rfl⟩⟩
  unfold Program.fieldsOf
  rw [Try.underlying41]

theorem stoodWd : Try.prog.stoodInHeld 39 = false := by kernel_rfl
theorem stoodCd : Try.prog.stoodInHeld 41 = false := by kernel_rfl

theorem eq_wideN (k : Nat) (a b c d : Int) (w : World) :
    (Op.equalIn (k + 2) 39 (.agg #[.int .i64 a, .int .i64 b]) (.agg #[.int .i64 c, .int .i64 d])).run Try.prog w = .ok (decide ((a, b) = (c, d))) w := by
  obtain ⟨f, g, hf, hu, fn, ft, fo, gn, gt, go⟩ := fieldsWd
  have h1 := run_equalIn_agg (P := Try.prog) w (k + 1) 39 #[.int .i64 a, .int .i64 b] #[.int .i64 c, .int .i64 d] (by rw [hf]; exact hu) stoodWd
  have pa : ∀ (x y : Value) wx, (part 3 #[x, y] 0).run Try.prog wx = .ok x wx := fun x y wx => by simp [part, Try.isAgg3]
  have pb : ∀ (x y : Value) wx, (part 3 #[x, y] 1).run Try.prog wx = .ok y wx := fun x y wx => by simp [part, Try.isAgg3]
  have qi : ∀ (x y : Int) wx, (Op.equalIn (k + 1) 3 (.int .i64 x) (.int .i64 y)).run Try.prog wx = .ok (x == y) wx := fun x y wx => run_equalIn_int wx k 3 .i64 .i64 x y Try.underlying3
  rw [show k + 2 = k + 1 + 1 from rfl, h1, hf]
  simp only [Op.eqFields, fn, gn, ne_eq, not_false_eq_true, if_true, Sem.run_bind, ft, fo, gt, go, pa, Result.andThen_ok, qi]
  by_cases h : a = c
  · subst h
    by_cases k : b = d
    · subst k; simp [pb, qi]
    · simp [k, pb, qi]
  · simp [h]

theorem eq_condN (a b c d e f a' b' c' d' e' f' : Int) (w : World) :
    (Op.equalIn 10000 41 (.agg #[.int .i64 a, .int .i64 b, .int .i64 c, .int .i64 d, .int .i64 e, .int .i64 f]) (.agg #[.int .i64 a', .int .i64 b', .int .i64 c', .int .i64 d', .int .i64 e', .int .i64 f'])).run Try.prog w =
      .ok (sameC ⟨a, b, c, d, e, f⟩ ⟨a', b', c', d', e', f'⟩) w := by
  obtain ⟨F, G, H, I, hf, hu, ⟨fn, ft, fo⟩, ⟨gn, gt, go⟩, ⟨hn, ht, ho⟩, ⟨iN, it, io⟩⟩ := fieldsCd
  have h1 := run_equalIn_agg (P := Try.prog) w 9999 41 #[.int .i64 a, .int .i64 b, .int .i64 c, .int .i64 d, .int .i64 e, .int .i64 f] #[.int .i64 a', .int .i64 b', .int .i64 c', .int .i64 d', .int .i64 e', .int .i64 f'] (by rw [hf]; exact hu) stoodCd
  have p0 : ∀ (v0 v1 v2 v3 v4 v5 : Value) wx, (part 3 #[v0, v1, v2, v3, v4, v5] 0).run Try.prog wx = .ok v0 wx := fun _ _ _ _ _ _ wx => by simp [part, Try.isAgg3]
  have p3 : ∀ (v0 v1 v2 v3 v4 v5 : Value) wx, (part 3 #[v0, v1, v2, v3, v4, v5] 3).run Try.prog wx = .ok v3 wx := fun _ _ _ _ _ _ wx => by simp [part, Try.isAgg3]
  have p1 : ∀ (v0 v1 v2 v3 v4 v5 : Value) wx, (part 39 #[v0, v1, v2, v3, v4, v5] 1).run Try.prog wx = .ok (.agg #[v1, v2]) wx := fun _ _ _ _ _ _ wx => by simp [part, Try.isAgg39, Try.sizeOf39]
  have p4 : ∀ (v0 v1 v2 v3 v4 v5 : Value) wx, (part 39 #[v0, v1, v2, v3, v4, v5] 4).run Try.prog wx = .ok (.agg #[v4, v5]) wx := fun _ _ _ _ _ _ wx => by simp [part, Try.isAgg39, Try.sizeOf39]
  have qi : ∀ (x y : Int) wx, (Op.equalIn 9999 3 (.int .i64 x) (.int .i64 y)).run Try.prog wx = .ok (x == y) wx := fun x y wx => run_equalIn_int wx 9998 3 .i64 .i64 x y Try.underlying3
  have qw : ∀ (x y u v : Int) wx, (Op.equalIn 9999 39 (.agg #[.int .i64 x, .int .i64 y]) (.agg #[.int .i64 u, .int .i64 v])).run Try.prog wx = .ok (decide ((x, y) = (u, v))) wx := fun x y u v wx => eq_wideN 9997 x y u v wx
  rw [show (10000 : Nat) = 9999 + 1 from rfl, h1, hf]
  unfold sameC
  simp only [Op.eqFields, fn, gn, hn, iN, ne_eq, not_false_eq_true, if_true, Sem.run_bind, ft, fo, gt, go, ht, ho, it, io, p0, Result.andThen_ok, qi]
  cases h0 : (a == a')
  · simp
  · simp only [Bool.not_true, Bool.false_eq_true, if_false, Bool.true_and, Sem.run_bind, p1, Result.andThen_ok, qw]
    cases h1 : decide ((b, c) = (b', c'))
    · simp
    · simp only [Bool.not_true, Bool.false_eq_true, if_false, Bool.true_and, Sem.run_bind, p3, Result.andThen_ok, qi]
      cases h2 : (d == d')
      · simp
      · simp only [Bool.not_true, Bool.false_eq_true, if_false, Bool.true_and, Sem.run_bind, p4, Result.andThen_ok, qw]
        cases h3 : decide ((e, f) = (e', f')) <;> simp

set_option maxRecDepth 100000 in
set_option maxHeartbeats 1600000 in
theorem l10Same_any (a1 a2 : Option Addr) (c1 c2 n m : Nat) (l s : List Int) (w : World) (hn : n = l.length) (hm : m = s.length) (hl : n ≤ 1048576) (hl2 : m ≤ 1048576) (h1 : Nums w a1 l) (h2 : Nums w a2 s) :
    Calls Try.prog 10 #[.slice a1 n c1, .slice a2 m c2] w fun e w' => e = .returned (.bool (sameNs l s)) ∧ Ext w w' := by
  have HN : Hid (n = l.length ∧ m = s.length) := ⟨hn, hm⟩
  have HB : Hid (sameNs l s = (decide (n = m) && (List.range n).all fun j => l.getD j 0 == s.getD j 0)) := by rw [hn, hm]; rfl
  have HA : Hid (∀ W, Ext w W → Nums W a1 l ∧ Nums W a2 s) := fun W hE => ⟨h1.step hE, h2.step hE⟩
  clear hn hm h1 h2
  by_cases hnm : n = m
  · subst hnm
    have HY : Hid (sameNs l s = (List.range n).all fun j => l.getD j 0 == s.getD j 0) := HB.out.trans (by simp)
    clear HB
    go_enter Try.func10, Try.ntmps10
    go_wp2_with fail
    go_loopw [5] (fun i wr => ∃ k : Nat, i = .int .i64 k ∧ k ≤ n ∧ Hid (Ext w wr) ∧ Hid ((List.range k).all (fun j => l.getD j 0 == s.getD j 0) = true)) (fun i _ => n - (intOf i).toNat)
    case atStart => exact ⟨0, rfl, by omega, Ext.refl _, by simp [Hid]⟩
    case round =>
      obtain ⟨k, rfl, hk, hE, hall⟩ := hrel
      by_cases hlt : k < n
      · have bk : (k : Int) < (n : Int) := by omega
        obtain ⟨b1, o1, rfl, g1, x1⟩ := (HA.out wr hE.out).1.at (k := k) (by have := HN.out.1; omega)
        obtain ⟨b2, o2, rfl, g2, x2⟩ := (HA.out wr hE.out).2.at (k := k) (by have := HN.out.2; omega)
        obtain ⟨z1, hz1⟩ : ∃ z1, z1 = l.getD k 0 := ⟨_, rfl⟩
        obtain ⟨z2, hz2⟩ : ∃ z2, z2 = s.getD k 0 := ⟨_, rfl⟩
        rw [← hz1] at x1
        rw [← hz2] at x2
        have HZ : Hid (z1 = l.getD k 0 ∧ z2 = s.getD k 0) := ⟨hz1, hz2⟩
        have S1 : Hid ((b1 < wr.heap.size ∧ Seg wr b1 (o1 + k) [.int .i64 z1]) ∧ (b2 < wr.heap.size ∧ Seg wr b2 (o2 + k) [.int .i64 z2])) :=
          ⟨⟨g1, fun i v hv => by match i, hv with | 0, hv => simp at hv; subst hv; exact x1⟩, ⟨g2, fun i v hv => by match i, hv with | 0, hv => simp at hv; subst hv; exact x2⟩⟩
        clear hz1 hz2 g1 g2 x1 x2
        obtain ⟨z, hz⟩ : ∃ z, z = (z1 == z2) := ⟨_, rfl⟩
        have hzz : (z1 == z2) = z := hz.symm
        have HQ : Hid (z = (l.getD k 0 == s.getD k 0)) := by unfold Hid; rw [hz, ← HZ.out.1, ← HZ.out.2]
        clear hz
        go_wp2_with fail
        refine' wp_region_loose (.inl _ :: .inl _ :: .inl _ :: .inl _ :: .inl _ :: .inl _ :: .inl _ :: .inl _ :: .inl _ :: []) (fun w' => SegB w' b1 (o1 + k) [.int .i64 z1] ∧ SegB w' b2 (o2 + k) [.int .i64 z2]) (by kernel_rfl) (by kernel_rfl) (⟨S1.out.1, S1.out.2⟩) (fun _ _ h hE => ⟨h.1.step hE, h.2.step hE⟩) ?hAa ?hla ?hMa
        case' hMa => skip
        apply wpLoose_val rfl rfl
        case hs =>
          intro w1 hC hd Q1 hQ1
          obtain ⟨hE, hS⟩ := hC
          dsimp only [bare]
          obtain ⟨p0, q0⟩ := (⟨hS.1.2.one, hS.2.2.one⟩ : _ ∧ _)
          clear hd hE
          try clear hS
          go_wp2
          exact Ext.refl _
        case ha => rfl
        apply wpLoose_val rfl rfl
        case hs =>
          intro w1 hC hd Q1 hQ1
          obtain ⟨hE, hS⟩ := hC
          dsimp only [bare]
          obtain ⟨p0, q0⟩ := (⟨hS.1.2.one, hS.2.2.one⟩ : _ ∧ _)
          clear hd hE
          try clear hS
          go_wp2
          exact Ext.refl _
        case ha => rfl
        apply wpLoose_val rfl rfl
        case hs =>
          intro w1 hC hd Q1 hQ1
          obtain ⟨hE, hS⟩ := hC
          dsimp only [bare]
          obtain ⟨p0, q0⟩ := (⟨hS.1.2.one, hS.2.2.one⟩ : _ ∧ _)
          clear hd hE
          try clear hS
          go_wp2
          exact Ext.refl _
        case ha => rfl
        apply wpLoose_val rfl rfl
        case hs =>
          intro w1 hC hd Q1 hQ1
          obtain ⟨hE, hS⟩ := hC
          dsimp only [bare]
          obtain ⟨p0, q0⟩ := (⟨hS.1.2.one, hS.2.2.one⟩ : _ ∧ _)
          clear hd hE
          try clear hS
          go_wp2
          exact Ext.refl _
        case ha => rfl
        apply wpLoose_val rfl rfl
        case hs =>
          intro w1 hC hd Q1 hQ1
          obtain ⟨hE, hS⟩ := hC
          dsimp only [bare]
          obtain ⟨p0, q0⟩ := (⟨hS.1.2.one, hS.2.2.one⟩ : _ ∧ _)
          clear hd hE
          try clear hS
          go_wp2
          exact Ext.refl _
        case ha => rfl
        apply wpLoose_val rfl rfl
        case hs =>
          intro w1 hC hd Q1 hQ1
          obtain ⟨hE, hS⟩ := hC
          dsimp only [bare]
          obtain ⟨p0, q0⟩ := (⟨hS.1.2.one, hS.2.2.one⟩ : _ ∧ _)
          clear hd hE
          try clear hS
          go_wp2
          exact Ext.refl _
        case ha => rfl
        apply wpLoose_val rfl rfl
        case hs =>
          intro w1 hC hd Q1 hQ1
          obtain ⟨hE, hS⟩ := hC
          dsimp only [bare]
          obtain ⟨p0, q0⟩ := (⟨hS.1.2.one, hS.2.2.one⟩ : _ ∧ _)
          clear hd hE
          try clear hS
          go_wp2
          exact Ext.refl _
        case ha => rfl
        apply wpLoose_val rfl rfl
        case hs =>
          intro w1 hC hd Q1 hQ1
          obtain ⟨hE, hS⟩ := hC
          dsimp only [bare]
          obtain ⟨p0, q0⟩ := (⟨hS.1.2.one, hS.2.2.one⟩ : _ ∧ _)
          clear hd hE
          try clear hS
          go_wp2
          exact Ext.refl _
        case ha => rfl
        apply wpLoose_val rfl rfl
        case hs =>
          intro w1 hC hd Q1 hQ1
          obtain ⟨hE, hS⟩ := hC
          dsimp only [bare]
          obtain ⟨p0, q0⟩ := (⟨hS.1.2.one, hS.2.2.one⟩ : _ ∧ _)
          clear hd hE
          try clear hS
          go_wp2
          exact Ext.refl _
        case ha => rfl
        refine wpLoose_nil ?_
        intro wa hEa hSa hFa
        · have HE2 : Hid (Ext w wa) := hE.out.drew.trans hEa
          clear hFa hSa hEa S1 HZ
          cases z
          · have HF : Hid (((List.range n).all fun j => l.getD j 0 == s.getD j 0) = false) := range_bad (k := k) hlt HQ.out.symm
            clear hall
            go_wp2
            go_ret
            exact ⟨by rw [HY.out, HF.out]; rfl, HE2.out⟩
          · have HT : Hid ((List.range (k + 1)).all (fun j => l.getD j 0 == s.getD j 0) = true) := range_more hall.out HQ.out.symm
            clear hall
            go_wp2
            go_roundw
            case rel => exact ⟨k + 1, by go_num, by omega, HE2, HT⟩
            case measure => simp [intOf]; omega
        case hAa => kernel_rfl
        case hla => exact ⟨trivial, trivial, trivial, trivial, trivial, trivial, trivial, trivial, trivial, trivial⟩
      · obtain rfl : k = n := by omega
        have bk : ¬ ((k : Int) < (k : Int)) := by omega
        go_wp2
        go_ret
        exact ⟨by rw [HY.out, hall.out]; rfl, hE.out⟩
  · have HF : Hid (sameNs l s = false) := by rw [HB.out, decide_eq_false hnm]; rfl
    have hne : ((n : Int) == (m : Int)) = false := by simpa using fun h => hnm (by omega)
    clear HB
    go_enter Try.func10, Try.ntmps10
    go_wp2
    go_ret
    exact ⟨by rw [HF.out]; rfl, Ext.refl _⟩

set_option maxRecDepth 100000 in
set_option maxHeartbeats 1600000 in
theorem equalInts_any (a1 a2 : Option Addr) (c1 c2 n m : Nat) (l s : List Int) (w : World) (hn : n = l.length) (hm : m = s.length) (hl : n ≤ 1048576) (hl2 : m ≤ 1048576) (h1 : Nums w a1 l) (h2 : Nums w a2 s) :
    Calls Try.prog 17 #[.slice a1 n c1, .slice a2 m c2] w fun e w' => e = .returned (.bool (sameNs l s)) ∧ Ext w w' := by
  have HN : Hid (n = l.length ∧ m = s.length) := ⟨hn, hm⟩
  have HB : Hid (sameNs l s = (decide (n = m) && (List.range n).all fun j => l.getD j 0 == s.getD j 0)) := by rw [hn, hm]; rfl
  have HA : Hid (∀ W, Ext w W → Nums W a1 l ∧ Nums W a2 s) := fun W hE => ⟨h1.step hE, h2.step hE⟩
  clear hn hm h1 h2
  by_cases hnm : n = m
  · subst hnm
    have HY : Hid (sameNs l s = (List.range n).all fun j => l.getD j 0 == s.getD j 0) := HB.out.trans (by simp)
    clear HB
    go_enter Try.func17, Try.ntmps17
    go_wp2_with fail
    go_loopw [13] (fun i wr => ∃ k : Nat, i = .int .i64 k ∧ k ≤ n ∧ Hid (Ext w wr) ∧ Hid ((List.range k).all (fun j => l.getD j 0 == s.getD j 0) = true)) (fun i _ => n - (intOf i).toNat)
    case atStart => exact ⟨0, rfl, by omega, Ext.refl _, by simp [Hid]⟩
    case round =>
      obtain ⟨k, rfl, hk, hE, hall⟩ := hrel
      by_cases hlt : k < n
      · have bk : (k : Int) < (n : Int) := by omega
        obtain ⟨b1, o1, rfl, g1, x1⟩ := (HA.out wr hE.out).1.at (k := k) (by have := HN.out.1; omega)
        obtain ⟨b2, o2, rfl, g2, x2⟩ := (HA.out wr hE.out).2.at (k := k) (by have := HN.out.2; omega)
        obtain ⟨z1, hz1⟩ : ∃ z1, z1 = l.getD k 0 := ⟨_, rfl⟩
        obtain ⟨z2, hz2⟩ : ∃ z2, z2 = s.getD k 0 := ⟨_, rfl⟩
        rw [← hz1] at x1
        rw [← hz2] at x2
        have HZ : Hid (z1 = l.getD k 0 ∧ z2 = s.getD k 0) := ⟨hz1, hz2⟩
        have S1 : Hid ((b1 < wr.heap.size ∧ Seg wr b1 (o1 + k) [.int .i64 z1]) ∧ (b2 < wr.heap.size ∧ Seg wr b2 (o2 + k) [.int .i64 z2])) :=
          ⟨⟨g1, fun i v hv => by match i, hv with | 0, hv => simp at hv; subst hv; exact x1⟩, ⟨g2, fun i v hv => by match i, hv with | 0, hv => simp at hv; subst hv; exact x2⟩⟩
        clear hz1 hz2 g1 g2 x1 x2
        obtain ⟨z, hz⟩ : ∃ z, z = (z1 == z2) := ⟨_, rfl⟩
        have hzz : (z1 == z2) = z := hz.symm
        have HQ : Hid (z = (l.getD k 0 == s.getD k 0)) := by unfold Hid; rw [hz, ← HZ.out.1, ← HZ.out.2]
        clear hz
        go_wp2_with fail
        refine' wp_region_loose (.inl _ :: .inl _ :: .inl _ :: .inl _ :: .inl _ :: .inl _ :: .inl _ :: .inl _ :: .inl _ :: []) (fun w' => SegB w' b1 (o1 + k) [.int .i64 z1] ∧ SegB w' b2 (o2 + k) [.int .i64 z2]) (by kernel_rfl) (by kernel_rfl) (⟨S1.out.1, S1.out.2⟩) (fun _ _ h hE => ⟨h.1.step hE, h.2.step hE⟩) ?hAa ?hla ?hMa
        case' hMa => skip
        apply wpLoose_val rfl rfl
        case hs =>
          intro w1 hC hd Q1 hQ1
          obtain ⟨hE, hS⟩ := hC
          dsimp only [bare]
          obtain ⟨p0, q0⟩ := (⟨hS.1.2.one, hS.2.2.one⟩ : _ ∧ _)
          clear hd hE
          try clear hS
          go_wp2
          exact Ext.refl _
        case ha => rfl
        apply wpLoose_val rfl rfl
        case hs =>
          intro w1 hC hd Q1 hQ1
          obtain ⟨hE, hS⟩ := hC
          dsimp only [bare]
          obtain ⟨p0, q0⟩ := (⟨hS.1.2.one, hS.2.2.one⟩ : _ ∧ _)
          clear hd hE
          try clear hS
          go_wp2
          exact Ext.refl _
        case ha => rfl
        apply wpLoose_val rfl rfl
        case hs =>
          intro w1 hC hd Q1 hQ1
          obtain ⟨hE, hS⟩ := hC
          dsimp only [bare]
          obtain ⟨p0, q0⟩ := (⟨hS.1.2.one, hS.2.2.one⟩ : _ ∧ _)
          clear hd hE
          try clear hS
          go_wp2
          exact Ext.refl _
        case ha => rfl
        apply wpLoose_val rfl rfl
        case hs =>
          intro w1 hC hd Q1 hQ1
          obtain ⟨hE, hS⟩ := hC
          dsimp only [bare]
          obtain ⟨p0, q0⟩ := (⟨hS.1.2.one, hS.2.2.one⟩ : _ ∧ _)
          clear hd hE
          try clear hS
          go_wp2
          exact Ext.refl _
        case ha => rfl
        apply wpLoose_val rfl rfl
        case hs =>
          intro w1 hC hd Q1 hQ1
          obtain ⟨hE, hS⟩ := hC
          dsimp only [bare]
          obtain ⟨p0, q0⟩ := (⟨hS.1.2.one, hS.2.2.one⟩ : _ ∧ _)
          clear hd hE
          try clear hS
          go_wp2
          exact Ext.refl _
        case ha => rfl
        apply wpLoose_val rfl rfl
        case hs =>
          intro w1 hC hd Q1 hQ1
          obtain ⟨hE, hS⟩ := hC
          dsimp only [bare]
          obtain ⟨p0, q0⟩ := (⟨hS.1.2.one, hS.2.2.one⟩ : _ ∧ _)
          clear hd hE
          try clear hS
          go_wp2
          exact Ext.refl _
        case ha => rfl
        apply wpLoose_val rfl rfl
        case hs =>
          intro w1 hC hd Q1 hQ1
          obtain ⟨hE, hS⟩ := hC
          dsimp only [bare]
          obtain ⟨p0, q0⟩ := (⟨hS.1.2.one, hS.2.2.one⟩ : _ ∧ _)
          clear hd hE
          try clear hS
          go_wp2
          exact Ext.refl _
        case ha => rfl
        apply wpLoose_val rfl rfl
        case hs =>
          intro w1 hC hd Q1 hQ1
          obtain ⟨hE, hS⟩ := hC
          dsimp only [bare]
          obtain ⟨p0, q0⟩ := (⟨hS.1.2.one, hS.2.2.one⟩ : _ ∧ _)
          clear hd hE
          try clear hS
          go_wp2
          exact Ext.refl _
        case ha => rfl
        apply wpLoose_val rfl rfl
        case hs =>
          intro w1 hC hd Q1 hQ1
          obtain ⟨hE, hS⟩ := hC
          dsimp only [bare]
          obtain ⟨p0, q0⟩ := (⟨hS.1.2.one, hS.2.2.one⟩ : _ ∧ _)
          clear hd hE
          try clear hS
          go_wp2
          exact Ext.refl _
        case ha => rfl
        refine wpLoose_nil ?_
        intro wa hEa hSa hFa
        · have HE2 : Hid (Ext w wa) := hE.out.drew.trans hEa
          clear hFa hSa hEa S1 HZ
          cases z
          · have HF : Hid (((List.range n).all fun j => l.getD j 0 == s.getD j 0) = false) := range_bad (k := k) hlt HQ.out.symm
            clear hall
            go_wp2
            go_ret
            exact ⟨by rw [HY.out, HF.out]; rfl, HE2.out⟩
          · have HT : Hid ((List.range (k + 1)).all (fun j => l.getD j 0 == s.getD j 0) = true) := range_more hall.out HQ.out.symm
            clear hall
            go_wp2
            go_roundw
            case rel => exact ⟨k + 1, by go_num, by omega, HE2, HT⟩
            case measure => simp [intOf]; omega
        case hAa => kernel_rfl
        case hla => exact ⟨trivial, trivial, trivial, trivial, trivial, trivial, trivial, trivial, trivial, trivial⟩
      · obtain rfl : k = n := by omega
        have bk : ¬ ((k : Int) < (k : Int)) := by omega
        go_wp2
        go_ret
        exact ⟨by rw [HY.out, hall.out]; rfl, hE.out⟩
  · have HF : Hid (sameNs l s = false) := by rw [HB.out, decide_eq_false hnm]; rfl
    have hne : ((n : Int) == (m : Int)) = false := by simpa using fun h => hnm (by omega)
    clear HB
    go_enter Try.func17, Try.ntmps17
    go_wp2
    go_ret
    exact ⟨by rw [HF.out]; rfl, Ext.refl _⟩

set_option maxRecDepth 100000 in
set_option maxHeartbeats 1600000 in
theorem equalConds_any (a1 a2 : Option Addr) (c1 c2 n m : Nat) (l s : List CN) (w : World) (hn : n = l.length) (hm : m = s.length) (hl : n ≤ 1048576) (hl2 : m ≤ 1048576) (h1 : Conds w a1 l) (h2 : Conds w a2 s) :
    Calls Try.prog 18 #[.slice a1 n c1, .slice a2 m c2] w fun e w' => e = .returned (.bool (sameCs l s)) ∧ Ext w w' := by
  have HN : Hid (n = l.length ∧ m = s.length) := ⟨hn, hm⟩
  have HB : Hid (sameCs l s = (decide (n = m) && (List.range n).all fun j => sameC (l.getD j c0) (s.getD j c0))) := by rw [hn, hm]; rfl
  have HA : Hid (∀ W, Ext w W → Conds W a1 l ∧ Conds W a2 s) := fun W hE => ⟨h1.step hE, h2.step hE⟩
  clear hn hm h1 h2
  by_cases hnm : n = m
  · subst hnm
    have HY : Hid (sameCs l s = (List.range n).all fun j => sameC (l.getD j c0) (s.getD j c0)) := HB.out.trans (by simp)
    clear HB
    go_enter Try.func18, Try.ntmps18
    go_wp2_with fail
    go_loopw [13] (fun i wr => ∃ k : Nat, i = .int .i64 k ∧ k ≤ n ∧ Hid (Ext w wr) ∧ Hid ((List.range k).all (fun j => sameC (l.getD j c0) (s.getD j c0)) = true)) (fun i _ => n - (intOf i).toNat)
    case atStart => exact ⟨0, rfl, by omega, Ext.refl _, by simp [Hid]⟩
    case round =>
      obtain ⟨k, rfl, hk, hE, hall⟩ := hrel
      by_cases hlt : k < n
      · have bk : (k : Int) < (n : Int) := by omega
        obtain ⟨x, hx⟩ : ∃ x, x = l.getD k c0 := ⟨_, rfl⟩
        obtain ⟨y, hy⟩ : ∃ y, y = s.getD k c0 := ⟨_, rfl⟩
        obtain ⟨b1, o1, rfl, g1, x1⟩ := (HA.out wr hE.out).1.at (k := k) (by have := HN.out.1; omega) hx
        obtain ⟨b2, o2, rfl, g2, x2⟩ := (HA.out wr hE.out).2.at (k := k) (by have := HN.out.2; omega) hy
        obtain ⟨z, hz⟩ : ∃ z, z = sameC x y := ⟨_, rfl⟩
        have HQ : Hid (z = sameC (l.getD k c0) (s.getD k c0)) := by unfold Hid; rw [hz, hx, hy]
        clear hx hy
        obtain ⟨ag, mh, ml, cm, vh, vl⟩ := x
        obtain ⟨ag', mh', ml', cm', vh', vl'⟩ := y
        have S1 : Hid (SegB wr b1 (o1 + k * 6) [.int .i64 ag, .int .i64 mh, .int .i64 ml, .int .i64 cm, .int .i64 vh, .int .i64 vl] ∧ SegB wr b2 (o2 + k * 6) [.int .i64 ag', .int .i64 mh', .int .i64 ml', .int .i64 cm', .int .i64 vh', .int .i64 vl']) := ⟨⟨g1, x1⟩, ⟨g2, x2⟩⟩
        have hEq := eq_condN ag mh ml cm vh vl ag' mh' ml' cm' vh' vl'
        rw [← hz] at hEq
        clear hz x1 x2 g1 g2
        go_wp2_with fail
        refine' wp_region_loose (.inl _ :: .inl _ :: .inl _ :: .inl _ :: .inl _ :: .inl _ :: .inl _ :: .inl _ :: .inl _ :: []) (fun w' => SegB w' b1 (o1 + k * 6) [.int .i64 ag, .int .i64 mh, .int .i64 ml, .int .i64 cm, .int .i64 vh, .int .i64 vl] ∧ SegB w' b2 (o2 + k * 6) [.int .i64 ag', .int .i64 mh', .int .i64 ml', .int .i64 cm', .int .i64 vh', .int .i64 vl']) (by kernel_rfl) (by kernel_rfl) (⟨S1.out.1, S1.out.2⟩) (fun _ _ h hE => ⟨h.1.step hE, h.2.step hE⟩) ?hAa ?hla ?hMa
        case' hMa => skip
        apply wpLoose_val rfl rfl
        case hs =>
          intro w1 hC hd Q1 hQ1
          obtain ⟨hE, hS⟩ := hC
          dsimp only [bare]
          obtain ⟨⟨p0, p1, p2, p3, p4, p5⟩, ⟨q0, q1, q2, q3, q4, q5⟩⟩ := (⟨hS.1.2.six, hS.2.2.six⟩ : _ ∧ _)
          clear hd hE
          try clear hS
          go_wp2
          exact Ext.refl _
        case ha => rfl
        apply wpLoose_val rfl rfl
        case hs =>
          intro w1 hC hd Q1 hQ1
          obtain ⟨hE, hS⟩ := hC
          dsimp only [bare]
          obtain ⟨⟨p0, p1, p2, p3, p4, p5⟩, ⟨q0, q1, q2, q3, q4, q5⟩⟩ := (⟨hS.1.2.six, hS.2.2.six⟩ : _ ∧ _)
          clear hd hE
          try clear hS
          go_wp2
          exact Ext.refl _
        case ha => rfl
        apply wpLoose_val rfl rfl
        case hs =>
          intro w1 hC hd Q1 hQ1
          obtain ⟨hE, hS⟩ := hC
          dsimp only [bare]
          obtain ⟨⟨p0, p1, p2, p3, p4, p5⟩, ⟨q0, q1, q2, q3, q4, q5⟩⟩ := (⟨hS.1.2.six, hS.2.2.six⟩ : _ ∧ _)
          clear hd hE
          try clear hS
          go_wp2
          exact Ext.refl _
        case ha => rfl
        apply wpLoose_val rfl rfl
        case hs =>
          intro w1 hC hd Q1 hQ1
          obtain ⟨hE, hS⟩ := hC
          dsimp only [bare]
          obtain ⟨⟨p0, p1, p2, p3, p4, p5⟩, ⟨q0, q1, q2, q3, q4, q5⟩⟩ := (⟨hS.1.2.six, hS.2.2.six⟩ : _ ∧ _)
          clear hd hE
          try clear hS
          go_wp2
          exact Ext.refl _
        case ha => rfl
        apply wpLoose_val rfl rfl
        case hs =>
          intro w1 hC hd Q1 hQ1
          obtain ⟨hE, hS⟩ := hC
          dsimp only [bare]
          obtain ⟨⟨p0, p1, p2, p3, p4, p5⟩, ⟨q0, q1, q2, q3, q4, q5⟩⟩ := (⟨hS.1.2.six, hS.2.2.six⟩ : _ ∧ _)
          clear hd hE
          try clear hS
          go_wp2
          exact Ext.refl _
        case ha => rfl
        apply wpLoose_val rfl rfl
        case hs =>
          intro w1 hC hd Q1 hQ1
          obtain ⟨hE, hS⟩ := hC
          dsimp only [bare]
          obtain ⟨⟨p0, p1, p2, p3, p4, p5⟩, ⟨q0, q1, q2, q3, q4, q5⟩⟩ := (⟨hS.1.2.six, hS.2.2.six⟩ : _ ∧ _)
          clear hd hE
          try clear hS
          go_wp2
          exact Ext.refl _
        case ha => rfl
        apply wpLoose_val rfl rfl
        case hs =>
          intro w1 hC hd Q1 hQ1
          obtain ⟨hE, hS⟩ := hC
          dsimp only [bare]
          obtain ⟨⟨p0, p1, p2, p3, p4, p5⟩, ⟨q0, q1, q2, q3, q4, q5⟩⟩ := (⟨hS.1.2.six, hS.2.2.six⟩ : _ ∧ _)
          clear hd hE
          try clear hS
          go_wp2
          exact Ext.refl _
        case ha => rfl
        apply wpLoose_val rfl rfl
        case hs =>
          intro w1 hC hd Q1 hQ1
          obtain ⟨hE, hS⟩ := hC
          dsimp only [bare]
          obtain ⟨⟨p0, p1, p2, p3, p4, p5⟩, ⟨q0, q1, q2, q3, q4, q5⟩⟩ := (⟨hS.1.2.six, hS.2.2.six⟩ : _ ∧ _)
          clear hd hE
          try clear hS
          go_wp2
          exact Ext.refl _
        case ha => rfl
        apply wpLoose_val rfl rfl
        case hs =>
          intro w1 hC hd Q1 hQ1
          obtain ⟨hE, hS⟩ := hC
          dsimp only [bare]
          obtain ⟨⟨p0, p1, p2, p3, p4, p5⟩, ⟨q0, q1, q2, q3, q4, q5⟩⟩ := (⟨hS.1.2.six, hS.2.2.six⟩ : _ ∧ _)
          clear hd hE
          try clear hS
          go_wp2
          exact Ext.refl _
        case ha => rfl
        refine wpLoose_nil ?_
        intro wa hEa hSa hFa
        · have HE2 : Hid (Ext w wa) := hE.out.drew.trans hEa
          clear hFa hSa hEa S1 hEq
          cases z
          · have HF : Hid (((List.range n).all fun j => sameC (l.getD j c0) (s.getD j c0)) = false) := range_bad (k := k) hlt HQ.out.symm
            clear hall
            go_wp2
            go_ret
            exact ⟨by rw [HY.out, HF.out]; rfl, HE2.out⟩
          · have HT : Hid ((List.range (k + 1)).all (fun j => sameC (l.getD j c0) (s.getD j c0)) = true) := range_more hall.out HQ.out.symm
            clear hall
            go_wp2
            go_roundw
            case rel => exact ⟨k + 1, by go_num, by omega, HE2, HT⟩
            case measure => simp [intOf]; omega
        case hAa => kernel_rfl
        case hla => exact ⟨trivial, trivial, trivial, trivial, trivial, trivial, trivial, trivial, trivial, trivial⟩
      · obtain rfl : k = n := by omega
        have bk : ¬ ((k : Int) < (k : Int)) := by omega
        go_wp2
        go_ret
        exact ⟨by rw [HY.out, hall.out]; rfl, hE.out⟩
  · have HF : Hid (sameCs l s = false) := by rw [HB.out, decide_eq_false hnm]; rfl
    have hne : ((n : Int) == (m : Int)) = false := by simpa using fun h => hnm (by omega)
    clear HB
    go_enter Try.func18, Try.ntmps18
    go_wp2
    go_ret
    exact ⟨by rw [HF.out]; rfl, Ext.refl _⟩

set_option maxRecDepth 100000 in
set_option maxHeartbeats 1600000 in
theorem sameRule_any {r s : RN} {v u : Value} {w : World} (hs : Small r) (hs2 : Small s) (h : RepRule r v w) (k : RepRule s u w) :
    Calls Try.prog 13 #[v, u] w fun e w' => e = .returned (.bool (sameRu r s)) ∧ Ext w w' := by
  obtain ⟨_, rfl, a1, n1, d1, a2, n2, d2, rfl, e1, e2, h1, h2⟩ := h
  obtain ⟨_, rfl, b1, m1, f1, b2, m2, f2, rfl, g1, g2, k1, k2⟩ := k
  obtain ⟨z1, hz1⟩ : ∃ z, z = sameNs r.nums s.nums := ⟨_, rfl⟩
  obtain ⟨z2, hz2⟩ : ∃ z, z = sameCs r.conds s.conds := ⟨_, rfl⟩
  have H1 : Hid (∀ W, Ext w W → Calls Try.prog 17 #[.slice a1 n1 d1, .slice b1 m1 f1] W fun e w' => e = .returned (.bool z1) ∧ Ext W w') := fun W hE => by
    rw [hz1]; exact equalInts_any a1 b1 d1 f1 n1 m1 _ _ W e1 g1 (by rw [e1]; exact hs.1) (by rw [g1]; exact hs2.1) (h1.step hE) (k1.step hE)
  have H2 : Hid (∀ W, Ext w W → Calls Try.prog 18 #[.slice a2 n2 d2, .slice b2 m2 f2] W fun e w' => e = .returned (.bool z2) ∧ Ext W w') := fun W hE => by
    rw [hz2]; exact equalConds_any a2 b2 d2 f2 n2 m2 _ _ W e2 g2 (by rw [e2]; exact hs.2) (by rw [g2]; exact hs2.2) (h2.step hE) (k2.step hE)
  have HB : Hid (sameRu r s = (((r.act == s.act) && (r.data == s.data)) && (z1 && z2))) := by rw [hz1, hz2]; rfl
  clear hz1 hz2 h1 h2 k1 k2 e1 e2 g1 g2 hs hs2
  generalize sameRu r s = Z at *
  generalize r.act = ra at *
  generalize r.data = rd at *
  generalize s.act = sa at *
  generalize s.data = sd at *
  by_cases ha : ra = sa
  · subst ha
    by_cases hd : rd = sd
    · subst hd
      have HY : Hid (Z = (z1 && z2)) := HB.out.trans (by simp)
      clear HB
      have X : Hid (Ext w ((w.alloc (.cells #[.slice a1 n1 d1, .slice a2 n2 d2, .int .i64 ra, .int .i64 rd] 36)).alloc (.cells #[.slice b1 m1 f1, .slice b2 m2 f2, .int .i64 ra, .int .i64 rd] 36))) := (Ext.one _ _).alloc _
      have C1 := (CellsAt.new w [.slice a1 n1 d1, .slice a2 n2 d2, .int .i64 ra, .int .i64 rd] 36).step (Ext.one _ (.cells #[.slice b1 m1 f1, .slice b2 m2 f2, .int .i64 ra, .int .i64 rd] 36))
      have C2 := CellsAt.new' (w.alloc (.cells #[.slice a1 n1 d1, .slice a2 n2 d2, .int .i64 ra, .int .i64 rd] 36)) [.slice b1 m1 f1, .slice b2 m2 f2, .int .i64 ra, .int .i64 rd] 36 (w.heap.size + 1) (by simp)
      simp only [List.toArray] at C1 C2
      go_enter Try.func13, Try.ntmps13
      go_wp2_with fail
      generalize (w.alloc (.cells #[.slice a1 n1 d1, .slice a2 n2 d2, .int .i64 ra, .int .i64 rd] 36)).alloc (.cells #[.slice b1 m1 f1, .slice b2 m2 f2, .int .i64 ra, .int .i64 rd] 36) = W at *
      refine (H1.out _ X.out).mono ?_
      rintro e w1 ⟨rfl, x1⟩
      have X1 : Hid (Ext w w1) := X.out.trans x1
      cases z1
      · go_wp2
        go_ret
        exact ⟨by rw [HY.out]; rfl, X1.out⟩
      · obtain ⟨p1, q1⟩ := (⟨(C1.step x1).2 1 _ rfl, (C2.step x1).2 1 _ rfl⟩ : _ ∧ _)
        clear C1 C2 x1
        go_wp2_with fail
        refine (H2.out _ X1.out).mono ?_
        rintro e w2 ⟨rfl, x2⟩
        have X2 : Hid (Ext w w2) := X1.out.trans x2
        clear x2 p1 q1
        go_wp2
        go_ret
        exact ⟨by rw [HY.out]; rfl, X2.out⟩
    · have HY : Hid (Z = false) := HB.out.trans (by simp [hd])
      have hne : (rd == sd) = false := by simpa using hd
      clear HB
      go_enter Try.func13, Try.ntmps13
      go_wp2
      go_ret
      exact ⟨by rw [HY.out]; rfl, (Ext.one _ _).alloc _⟩
  · have HY : Hid (Z = false) := HB.out.trans (by simp [ha])
    have hne : (ra == sa) = false := by simpa using ha
    clear HB
    go_enter Try.func13, Try.ntmps13
    go_wp2
    go_ret
    exact ⟨by rw [HY.out]; rfl, (Ext.one _ _).alloc _⟩

end Go.Proofs.Ytojaohdmfahpmaa
