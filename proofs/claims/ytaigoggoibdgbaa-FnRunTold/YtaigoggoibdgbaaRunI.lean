/- What impl's Run answers, of every program and every call. -/
import Derived.Test.YtaigoggoibdgbaaMachI
import Derived.Test.YtaigoggoibdgbaaRunS
namespace Go.Proofs.Ytaigoggoibdgbaa
open Go.RowKit
set_option linter.unusedVariables false

/-- The machine's place, read in memory. -/
def atOf (w : World) (g : Nat) : Nat := match w.cell? ⟨g, 1, none⟩ with | some (.int _ z) => z.toNat | _ => 0

theorem Mach.atOf {w : World} {g : Nat} {r s : Int} {i : Nat} (h : Mach w g r i s) : atOf w g = i := by
  unfold Go.Proofs.Ytaigoggoibdgbaa.atOf
  rw [Blk.cell h 1 _ rfl]
  simp

set_option maxRecDepth 100000 in
set_option maxHeartbeats 4000000 in
theorem iRun_any (a : Option Addr) (cap : Nat) (ws : List Wd) (arch num : Int) (cs : List (Int × Int)) (v : Value) (res : Int) (mm : Nat) (w : World) (hl : ws.length ≤ 1048576) (hca : ws.length ≤ cap) (h : Words w a ws) (hcl : cs.length ≤ 1048576) (hR : RepCall arch num cs v w) (hres : RunR ws arch num cs res mm) :
    Calls Try.prog 13 #[.slice a ws.length cap, v] w fun e w' => e = .returned (.tuple #[.int .i64 res, .int .i64 (mm : Int)]) ∧ Ext w w' := by
  obtain ⟨n, hn⟩ : ∃ n, n = ws.length := ⟨_, rfl⟩
  obtain ⟨ca, cc, rfl, hw⟩ := hR
  obtain ⟨cl, hcl'⟩ : ∃ cl, cl = cs.length := ⟨_, rfl⟩
  have HA : Hid (Words w a ws ∧ n = ws.length) := ⟨h, hn⟩
  have HC : Hid (∀ w1, Ext w w1 → RepCall arch num cs (.agg #[.int .i64 arch, .int .i64 num, .slice ca cl cc]) w1) := fun w1 he => by rw [hcl']; exact RepCall.step ⟨ca, cc, rfl, hw⟩ he
  have HCK : Hid (∀ w1, Ext w w1 → Calls Try.prog 11 #[.slice a n cap] w1 fun e w' => e = .returned (.bool (checkP ws)) ∧ Ext w1 w') := fun w1 he => by rw [hn]; exact iCheck_any a cap ws w1 hl hca (h.ext he)
  have HCO : Hid (∀ w1, Ext w w1 → Calls Try.prog 40 #[.agg #[.int .i64 arch, .int .i64 num, .slice ca cl cc]] w1 fun e w' => e = .returned (.bool (callB arch num cs)) ∧ Ext w1 w') := fun w1 he => iCall_rep arch num cs _ w1 hcl (HC.out w1 he)
  have HCL : Hid (cs.length ≤ 1048576) := hcl
  have HRES : Hid (RunR ws arch num cs res mm) := hres
  have b0 : Hid (Blk (w.alloc (.cells #[.int .i64 arch, .int .i64 num, .slice ca cl cc] 28)) w.heap.size [.int .i64 arch, .int .i64 num, .slice ca cl cc] 28) := Blk.new w [.int .i64 arch, .int .i64 num, .slice ca cl cc] 28
  rw [← hn, ← hcl']
  have hl' : n ≤ 1048576 := by omega
  clear h hn hl hcl hcl' hres hw hca
  cases hck : checkP ws
  · have HZ : Hid (res = 0 ∧ mm = 0) := by
      rcases HRES.out with ⟨h, _⟩ | ⟨_, h⟩
      · rw [hck] at h; cases h
      · exact h
    rw [hck] at HCK
    clear hck
    go_enter Try.func13, Try.ntmps13
    go_wp2_with fail
    refine (HCK.out _ (Ext.one _ _)).mono ?_
    rintro e w1 ⟨rfl, e1⟩
    have E1 : Hid (Ext w w1) := (Ext.one _ _).trans e1
    clear e1
    go_wp2
    go_ret2
    exact ⟨by rw [HZ.out.1, HZ.out.2]; rfl, E1.out⟩
  cases hcb : callB arch num cs
  · have HZ : Hid (res = 0 ∧ mm = 0) := by
      rcases HRES.out with ⟨_, h, _⟩ | ⟨_, h⟩
      · rw [hcb] at h; cases h
      · exact h
    rw [hck] at HCK
    rw [hcb] at HCO
    clear hck hcb
    go_enter Try.func13, Try.ntmps13
    go_wp2_with fail
    refine (HCK.out _ (Ext.one _ _)).mono ?_
    rintro e w1 ⟨rfl, e1⟩
    have E1 : Hid (Ext w w1) := (Ext.one _ _).trans e1
    have b1 := b0.out.ext e1
    obtain ⟨q0, q1, q2⟩ := (⟨b1.cell 0 _ rfl, b1.cell 1 _ rfl, b1.cell 2 _ rfl⟩ : _ ∧ _ ∧ _)
    clear e1 b1
    go_wp2_with fail
    refine (HCO.out _ E1.out).mono ?_
    rintro e w2 ⟨rfl, e2⟩
    have E2 : Hid (Ext w w2) := E1.out.trans e2
    clear e2 q0 q1 q2
    go_wp2
    go_ret2
    exact ⟨by rw [HZ.out.1, HZ.out.2]; rfl, E2.out⟩
  have HRUN : Hid (∃ f, Runs ws (fieldR arch num cs) f 0 0 0 res mm) := by
    rcases HRES.out with ⟨_, _, h⟩ | ⟨h, _⟩
    · exact h
    · rcases h with h | h
      · rw [hck] at h; cases h
      · rw [hcb] at h; cases h
  have HCH : Hid (checkP ws = true) := hck
  have hn4 : 1 ≤ n ∧ n ≤ 400 := by have h := hck; rw [checkP_true] at h; have := h.1; have := HA.out.2; omega
  obtain ⟨hn1, hn4⟩ := hn4
  rw [hck] at HCK
  rw [hcb] at HCO
  clear hck hcb HRES
  go_enter Try.func13, Try.ntmps13
  go_wp2_with fail
  refine (HCK.out _ (Ext.one _ _)).mono ?_
  rintro e w1 ⟨rfl, e1⟩
  have E1 : Hid (Ext w w1) := (Ext.one _ _).trans e1
  have B1 : Hid (Blk w1 w.heap.size [.int .i64 arch, .int .i64 num, .slice ca cl cc] 28) := b0.out.ext e1
  obtain ⟨q0, q1, q2⟩ := (⟨B1.out.cell 0 _ rfl, B1.out.cell 1 _ rfl, B1.out.cell 2 _ rfl⟩ : _ ∧ _ ∧ _)
  clear e1 HCK
  go_wp2_with fail
  refine (HCO.out _ E1.out).mono ?_
  rintro e w2 ⟨rfl, e2⟩
  have E2 : Hid (Ext w w2) := E1.out.trans e2
  have B2 : Hid (Blk w2 w.heap.size [.int .i64 arch, .int .i64 num, .slice ca cl cc] 28) := B1.out.ext e2
  clear e2 q0 q1 q2 HCO B1 E1 b0
  go_wp2_with fail
  obtain ⟨g, hg⟩ : ∃ g, g = w2.heap.size := ⟨_, rfl⟩
  rw [← hg]
  have hwg : w.heap.size < g := by rw [hg]; exact B2.out.lt
  have HM : Hid (Mach (w2.alloc (.cells #[.int .i64 0, .int .i64 0, .int .i64 0] 65)) g 0 (0 : Nat) (0 : Nat)) := by rw [hg]; exact Blk.new w2 [.int .i64 0, .int .i64 0, .int .i64 0] 65
  clear hg
  go_loopw [] (fun wr => ∃ (r : Int) (s i : Nat), i < n ∧ s ≤ i ∧ Hid (Mach wr g r i s ∧ Ext w wr ∧ Blk wr w.heap.size [.int .i64 arch, .int .i64 num, .slice ca cl cc] 28 ∧ ∃ f, Runs ws (fieldR arch num cs) f i r s res mm)) (fun wr => n - atOf wr g)
  case atStart => exact ⟨0, 0, 0, by omega, by omega, HM.out, E2.out.alloc _, B2.out.alloc _, HRUN.out⟩
  case round =>
    obtain ⟨r, s, i, hi, hs, HR⟩ := hrel
    have bi : (i : Int) < (n : Int) := by omega
    have hin : i < ws.length := by have := HA.out.2; omega
    obtain ⟨⟨o, k, y, nn⟩, hp⟩ : ∃ p, p = ws.getD i zeroW := ⟨_, rfl⟩
    have HP : Hid ((o, k, y, nn) = ws.getD i zeroW) := hp
    obtain ⟨b, off, rfl, hq⟩ := (HA.out.1.ext HR.out.2.1).quad (k := i) hin hp
    have HQ : Hid (Quad wr b (off + i * 4) (o, k, y, nn)) := hq
    obtain ⟨c0, c1, c2, c3⟩ := hq
    simp only at c0 c1 c2 c3
    obtain ⟨m0, m1, m2⟩ := (⟨Blk.cell HR.out.1 0 _ rfl, Blk.cell HR.out.1 1 _ rfl, Blk.cell HR.out.1 2 _ rfl⟩ : _ ∧ _ ∧ _)
    clear hp HRUN E2 B2 HM
    by_cases h8 : o = 8
    · have HZ : Hid (res = k ∧ mm = s + 1) := by
        obtain ⟨f, hf⟩ := HR.out.2.2.2
        have := runs_ret hf (by rw [← HP.out]; exact h8)
        rw [← HP.out] at this
        exact this
      have E3 : Hid (Ext w wr) := HR.out.2.1
      subst h8
      clear hin
      go_wp2
      go_quiet (fail)
      go_wp2
      go_ret2
      exact ⟨by rw [HZ.out.1, HZ.out.2]; rfl, E3.out.drewN _⟩
    have h8' : (ws.getD i zeroW).1 ≠ 8 := by rw [← HP.out]; exact h8
    have q8 : (o == 8) = false := by simpa using h8
    have q8' : (o != 8) = true := by simpa using h8
    have hok := (check_ways HCH.out hin h8').1
    have hnx := next_lt HCH.out hin h8' r
    obtain ⟨f, hf⟩ := HR.out.2.2.2
    obtain ⟨f', hf'⟩ := runs_next hf h8'
    rw [← HP.out] at hok hnx hf'
    have HNX : Hid (i + 1 + (overW (o, k, y, nn) r).toNat < n ∧ ∃ f, Runs ws (fieldR arch num cs) f (i + 1 + (overW (o, k, y, nn) r).toNat) (regW (fieldR arch num cs) (o, k, y, nn) r) (s + 1) res mm) := ⟨by have := HA.out.2; omega, f', hf'⟩
    have HST : Hid (∀ w1, Ext wr w1 → Calls Try.prog 41 #[.pointer (some ⟨g, 0, none⟩), .agg #[.int .i64 o, .int .i64 k, .int .i64 y, .int .i64 nn], .agg #[.int .i64 arch, .int .i64 num, .slice ca cl cc]] w1 fun e w' => e = .returned (.tuple #[]) ∧ Mach w' g (regW (fieldR arch num cs) (o, k, y, nn) r) ((i + 1 + (overW (o, k, y, nn) r).toNat : Nat) : Int) ((s + 1 : Nat) : Int) ∧ w1.grownBy w' (some g)) := fun w1 he =>
      step_any g i s r o k y nn arch num cs _ w1 (Blk.ext HR.out.1 he) hok h8 (by omega) (by omega) HCL.out (HC.out w1 (HR.out.2.1.trans he))
    have HK : Hid (Quad wr b (off + i * 4) (o, k, y, nn) ∧ Mach wr g r i s ∧ Blk wr w.heap.size [.int .i64 arch, .int .i64 num, .slice ca cl cc] 28) := ⟨HQ.out, HR.out.1, HR.out.2.2.1⟩
    clear hf hf' h8' hnx hin h8 hok
    go_wp2
    clear c0 c1 c2 c3 m0 m1 m2
    refine' wp_region_loose_tail 6 (.inl _ :: .inl _ :: .inl _ :: .inl _ :: .inl _ :: .inl _ :: []) (fun w' => Quad w' b (off + i * 4) (o, k, y, nn) ∧ Mach w' g r i s ∧ Blk w' w.heap.size [.int .i64 arch, .int .i64 num, .slice ca cl cc] 28) (by kernel_rfl) (by kernel_rfl) (HK.out) (fun _ _ h hE => ⟨h.1.below hE h.1.lt, Blk.ext h.2.1 hE, Blk.ext h.2.2 hE⟩) ?hAa ?hla ?hMa
    case' hMa => skip
    simp only [List.take_succ_cons, List.take_zero, List.drop_succ_cons, List.drop_zero]
    apply wpLoose_val rfl rfl
    case hs =>
      intro w1 hC hd Q1 hQ1
      obtain ⟨hE, hS⟩ := hC
      dsimp only [bare]
      obtain ⟨⟨c0, c1, c2, c3⟩, hM, hB⟩ := hS; simp only at c0 c1 c2 c3; have m1 := Blk.cell hM 1 _ rfl; obtain ⟨q0, q1, q2⟩ := (⟨hB.cell 0 _ rfl, hB.cell 1 _ rfl, hB.cell 2 _ rfl⟩ : _ ∧ _ ∧ _); clear hM hB
      clear hd hE
      try clear hS
      go_wp2
      exact Ext.refl _
    case ha => rfl
    apply wpLoose_val rfl rfl
    case hs =>
      intro w1 hC hd Q1 hQ1
      obtain ⟨hE, hS⟩ := hC
      dsimp only [bare]
      obtain ⟨⟨c0, c1, c2, c3⟩, hM, hB⟩ := hS; simp only at c0 c1 c2 c3; have m1 := Blk.cell hM 1 _ rfl; obtain ⟨q0, q1, q2⟩ := (⟨hB.cell 0 _ rfl, hB.cell 1 _ rfl, hB.cell 2 _ rfl⟩ : _ ∧ _ ∧ _); clear hM hB
      clear hd hE
      try clear hS
      go_wp2
      exact Ext.refl _
    case ha => rfl
    apply wpLoose_val rfl rfl
    case hs =>
      intro w1 hC hd Q1 hQ1
      obtain ⟨hE, hS⟩ := hC
      dsimp only [bare]
      obtain ⟨⟨c0, c1, c2, c3⟩, hM, hB⟩ := hS; simp only at c0 c1 c2 c3; have m1 := Blk.cell hM 1 _ rfl; obtain ⟨q0, q1, q2⟩ := (⟨hB.cell 0 _ rfl, hB.cell 1 _ rfl, hB.cell 2 _ rfl⟩ : _ ∧ _ ∧ _); clear hM hB
      clear hd hE
      try clear hS
      go_wp2
      exact Ext.refl _
    case ha => rfl
    apply wpLoose_val rfl rfl
    case hs =>
      intro w1 hC hd Q1 hQ1
      obtain ⟨hE, hS⟩ := hC
      dsimp only [bare]
      obtain ⟨⟨c0, c1, c2, c3⟩, hM, hB⟩ := hS; simp only at c0 c1 c2 c3; have m1 := Blk.cell hM 1 _ rfl; obtain ⟨q0, q1, q2⟩ := (⟨hB.cell 0 _ rfl, hB.cell 1 _ rfl, hB.cell 2 _ rfl⟩ : _ ∧ _ ∧ _); clear hM hB
      clear hd hE
      try clear hS
      go_wp2
      exact Ext.refl _
    case ha => rfl
    apply wpLoose_val rfl rfl
    case hs =>
      intro w1 hC hd Q1 hQ1
      obtain ⟨hE, hS⟩ := hC
      dsimp only [bare]
      obtain ⟨⟨c0, c1, c2, c3⟩, hM, hB⟩ := hS; simp only at c0 c1 c2 c3; have m1 := Blk.cell hM 1 _ rfl; obtain ⟨q0, q1, q2⟩ := (⟨hB.cell 0 _ rfl, hB.cell 1 _ rfl, hB.cell 2 _ rfl⟩ : _ ∧ _ ∧ _); clear hM hB
      clear hd hE
      try clear hS
      go_wp2
      exact Ext.refl _
    case ha => rfl
    apply wpLoose_val rfl rfl
    case hs =>
      intro w1 hC hd Q1 hQ1
      obtain ⟨hE, hS⟩ := hC
      dsimp only [bare]
      obtain ⟨⟨c0, c1, c2, c3⟩, hM, hB⟩ := hS; simp only at c0 c1 c2 c3; have m1 := Blk.cell hM 1 _ rfl; obtain ⟨q0, q1, q2⟩ := (⟨hB.cell 0 _ rfl, hB.cell 1 _ rfl, hB.cell 2 _ rfl⟩ : _ ∧ _ ∧ _); clear hM hB
      clear hd hE
      try clear hS
      go_wp2
      exact Ext.refl _
    case ha => rfl
    refine wpLoose_nil ?_
    intro wa hEa hSa hFa
    have E3 : Hid (Ext wr wa) := (Ext.refl wr).drew.trans hEa
    clear hFa hSa hEa
    go_wp2_with fail
    refine (HST.out _ E3.out).mono ?_
    rintro e w3 ⟨rfl, hM3, hg3⟩
    have E4 : Hid (Ext w w3) := Below.grown (HR.out.2.1.trans E3.out) hg3 (HR.out.2.1.trans E3.out).size (fun k hk => by have := Option.some.inj hk; omega)
    have B4 : Hid (Blk w3 w.heap.size [.int .i64 arch, .int .i64 num, .slice ca cl cc] 28) := Blk.grown (Blk.ext HK.out.2.2 E3.out) hg3 (ne_some (by omega))
    have M4 : Hid (Mach w3 g (regW (fieldR arch num cs) (o, k, y, nn) r) ((i + 1 + (overW (o, k, y, nn) r).toNat : Nat) : Int) ((s + 1 : Nat) : Int)) := hM3
    clear hM3 hg3 HST
    go_wp2
    go_roundw
    case rel => exact ⟨regW (fieldR arch num cs) (o, k, y, nn) r, s + 1, i + 1 + (overW (o, k, y, nn) r).toNat, HNX.out.1, by omega, M4.out, E4.out, B4.out, HNX.out.2⟩
    case measure =>
      rw [M4.out.atOf, HR.out.1.atOf]
      have := HNX.out.1
      omega
    case hAa => kernel_rfl
    case hla => exact ⟨trivial, trivial, trivial, trivial, trivial, trivial, trivial⟩

end Go.Proofs.Ytaigoggoibdgbaa
