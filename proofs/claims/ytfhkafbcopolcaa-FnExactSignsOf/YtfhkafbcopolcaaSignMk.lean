/- What the laws' markSignS and heldSignS do to a row of signs. -/
import Derived.Test.YtfhkafbcopolcaaSignSl
namespace Go.Proofs.Ytfhkafbcopolcaa
open Go.RowKit
set_option linter.unusedVariables false

def markG (j : Nat) : Sg := (((3 * j + 1 : Nat) : Int), 109 :: dec (3 * j + 2), ((3 * j + 3 : Nat) : Int))

def marksG (n : Nat) : List Sg := (List.range n).map markG

theorem marksG_length (n : Nat) : (marksG n).length = n := by simp [marksG]

theorem marksG_getD (n j : Nat) (h : j < n) : (marksG n).getD j zeroG = markG j := by simp [marksG, List.getD_eq_getElem?_getD, h]

theorem markB_txt (k : Nat) : markB k = txt (109 :: dec k) := rfl

theorem set_same8 {W : World} {a : Addr} {u : Value} (v : Value) (h : W.cell? a = some u) : (W.setCell a v).cell? a = some v := World.cell?_setCell_same _ _ _ h
theorem set_far8 {W : World} {a q : Addr} {v : Value} (h : q ≠ a) : (W.setCell a v).cell? q = W.cell? q := World.cell?_setCell_other _ _ _ _ (Ne.symm h)
theorem off_ne8 {g i j : Nat} (h : i ≠ j) : (⟨g, i, none⟩ : Addr) ≠ ⟨g, j, none⟩ := fun e => h (by injection e)

theorem markT_at (kn : Nat) (w : World) (hn : kn ≤ 100000000) : Calls Try.prog 24 #[.int .i64 ((kn : Int) + 1)] w fun e w' => e = .returned (.string (markB (kn + 1))) ∧ Below w.heap.size w w' := by
  have := markT_any (kn + 1) w (by omega) (by omega)
  simpa using this

set_option maxRecDepth 100000 in
set_option maxHeartbeats 2000000 in
theorem markG_some (g n cap B : Nat) (w : World) (hn : n ≤ 1048576) (hB : B ≤ g) (hf : ∀ j, w.frozen? ⟨g, j, none⟩ = false) (hq : ∀ j, j < n → ∃ k t m, Tri w g (j * 3) k t m) (hg : g < w.heap.size) :
    Calls Try.prog 9 #[.slice (some ⟨g, 0, none⟩) n cap, .int .i64 1] w fun e w' => e = .returned (.int .i64 (3 * (n : Int) + 1)) ∧ Signs w' (some ⟨g, 0, none⟩) (marksG n) ∧ Below B w w' := by
  have HA : Hid ((∀ j, w.frozen? ⟨g, j, none⟩ = false) ∧ (∀ j, j < n → ∃ k t m, Tri w g (j * 3) k t m) ∧ B ≤ g ∧ g < w.heap.size) := ⟨hf, hq, hB, hg⟩
  clear hf hq hB hg
  go_enter Try.func9, Try.ntmps9
  go_wp2_with fail
  go_loopw [1, 5] (fun kv i wr => ∃ (j kn : Nat), i = .int .i64 j ∧ kv = .int .i64 (kn : Int) ∧ j ≤ n ∧ kn ≤ 5000000 ∧ Hid (kn = 3 * j + 1 ∧ Below B w wr ∧ g < wr.heap.size ∧ (∀ j, wr.frozen? ⟨g, j, none⟩ = false) ∧ (∀ i, i < n → ∃ k t m, Tri wr g (i * 3) k t m ∧ (i < j → (k = ((3 * i + 1 : Nat) : Int) ∧ t = markB (3 * i + 2) ∧ m = ((3 * i + 3 : Nat) : Int)))))) (fun _ i _ => n - (intOf i).toNat)
  case atStart => exact ⟨0, 1, rfl, rfl, by omega, by omega, rfl, Below.refl _ _, HA.out.2.2.2, HA.out.1, fun i hi => by obtain ⟨k, t, m, h⟩ := HA.out.2.1 i hi; exact ⟨k, t, m, h, fun h => by omega⟩⟩
  case round =>
    obtain ⟨j, kn, rfl, rfl, hj, hkn, HR⟩ := hrel
    by_cases hlt : j < n
    · have bk : (j : Int) < (n : Int) := by omega
      obtain ⟨k, t, m, ⟨c0, c1, c2⟩, _⟩ := HR.out.2.2.2.2 j hlt
      have f := HR.out.2.2.2.1
      go_wp2_with fail
      refine (markT_at kn _ (by omega)).mono ?_
      rintro e w1 ⟨rfl, hb1⟩
      obtain ⟨T, hT⟩ : ∃ T, T = markB (kn + 1) := ⟨_, rfl⟩
      rw [← hT]
      have HT : Hid (T = markB (kn + 1)) := hT
      have hgs := HR.out.2.2.1
      have HQ : Hid (Below B w w1 ∧ g < w1.heap.size ∧ (∀ j, w1.frozen? ⟨g, j, none⟩ = false) ∧ w1.cell? ⟨g, j * 3, none⟩ = some (.int .i64 (kn : Int)) ∧ w1.cell? ⟨g, j * 3 + 1, none⟩ = some (.string t) ∧ w1.cell? ⟨g, j * 3 + 2, none⟩ = some (.int .i64 m) ∧ (∀ o, o ≠ j * 3 → w1.cell? ⟨g, o, none⟩ = wr.cell? ⟨g, o, none⟩)) := by
        have hs : (wr.setCell ⟨g, j * 3, none⟩ (.int .i64 (kn : Int))).heap.size = wr.heap.size := World.size_setCell _ _ _
        have hcell : ∀ o, w1.cell? ⟨g, o, none⟩ = (wr.setCell ⟨g, j * 3, none⟩ (.int .i64 (kn : Int))).cell? ⟨g, o, none⟩ := fun o => hb1.cell (p := ⟨g, o, none⟩) (by rw [hs]; exact hgs)
        refine ⟨(HR.out.2.1.setCell HA.out.2.2.1 _).trans (hb1.mono (by rw [hs]; exact Nat.le_trans HA.out.2.2.1 (Nat.le_of_lt hgs))), Nat.lt_of_lt_of_le hgs (by have := hb1.size; rw [hs] at this; exact this), fun x => (hb1.frozen (p := ⟨g, x, none⟩) (by rw [hs]; exact hgs)).trans ((World.frozen?_setCell _ _ _ _).trans (f x)), ?_, ?_, ?_, fun o ho => ?_⟩
        · rw [hcell]; exact set_same8 _ c0
        · rw [hcell, set_far8 (off_ne8 (by omega))]; exact c1
        · rw [hcell, set_far8 (off_ne8 (by omega))]; exact c2
        · rw [hcell, set_far8 (off_ne8 ho)]
      obtain ⟨_, _, f1, e0, e1, e2, _⟩ := HQ.out
      clear hb1 c0 c1 c2 f hgs hT
      go_wp2
      go_roundw
      case rel =>
        obtain ⟨hKe, hb, hgs, hfr, hcell⟩ := HR.out
        obtain ⟨qb, qg, qf, q0, q1, q2, qfar⟩ := HQ.out
        refine ⟨j + 1, kn + 1 + 1 + 1, by go_num, by go_num, by omega, by omega, by omega, (qb.setCell HA.out.2.2.1 _).setCell HA.out.2.2.1 _, by rw [World.size_setCell, World.size_setCell]; exact qg, fun x => by rw [World.frozen?_setCell, World.frozen?_setCell]; exact qf x, fun i hi => ?_⟩
        by_cases hij : i = j
        · subst hij
          refine ⟨(kn : Int), T, (kn : Int) + 1 + 1, ⟨?_, ?_, ?_⟩, fun _ => ⟨by omega, by rw [HT.out, hKe], by omega⟩⟩
          · rw [set_far8 (off_ne8 (by omega)), set_far8 (off_ne8 (by omega))]; exact q0
          · rw [set_far8 (off_ne8 (by omega))]; exact set_same8 _ q1
          · refine set_same8 (u := .int .i64 m) _ ?_
            rw [set_far8 (off_ne8 (by omega))]; exact q2
        · obtain ⟨k', t', m', d, hd⟩ := hcell i hi
          refine ⟨k', t', m', ⟨?_, ?_, ?_⟩, fun h => hd (by omega)⟩
          · rw [set_far8 (off_ne8 (by omega)), set_far8 (off_ne8 (by omega)), qfar _ (by omega)]; exact d.1
          · rw [set_far8 (off_ne8 (by omega)), set_far8 (off_ne8 (by omega)), qfar _ (by omega)]; exact d.2.1
          · rw [set_far8 (off_ne8 (by omega)), set_far8 (off_ne8 (by omega)), qfar _ (by omega)]; exact d.2.2
      case measure => simp [intOf]; omega
    · have bk : ¬ ((j : Int) < (n : Int)) := by omega
      have hjn : j = n := by omega
      subst hjn
      go_wp2
      go_ret
      refine ⟨ret_int (by have := HR.out.1; omega), fun hp => ⟨g, 0, rfl, fun i hi => ?_⟩, HR.out.2.1⟩
      rw [marksG_length] at hi
      obtain ⟨k, t, m, d, hd⟩ := HR.out.2.2.2.2 i hi
      obtain ⟨r1, r2, r3⟩ := hd hi
      rw [marksG_getD _ _ hi, Nat.zero_add]
      unfold markG
      rw [← markB_txt, ← r1, ← r2, ← r3]
      exact d

theorem markG_none (a : Option Addr) (cap : Nat) (w : World) : Calls Try.prog 9 #[.slice a 0 cap, .int .i64 1] w fun e w' => e = .returned (.int .i64 1) ∧ w = w' := by
  go_enter Try.func9, Try.ntmps9
  go_wp2_with fail
  refine wp_loop_rounds 1 ?_
  rw [rounds_succ]
  go_wp2
  go_ret
  exact ⟨rfl, rfl⟩

theorem markG_any (B : Nat) (v : Value) (ps : List Sg) (w : World) (hn : ps.length ≤ 1048576) (h : Own3 w B v ps) :
    Calls Try.prog 9 #[v, .int .i64 1] w fun e w' => e = .returned (.int .i64 (3 * (ps.length : Int) + 1)) ∧ (∃ a cap, v = .slice a ps.length cap ∧ Signs w' a (marksG ps.length)) ∧ Below B w w' := by
  obtain ⟨a, cap, rfl, hw, hg⟩ := h.signs
  by_cases h0 : ps.length = 0
  · rw [h0]
    refine (markG_none a cap w).mono ?_
    rintro e w' ⟨rfl, rfl⟩
    exact ⟨rfl, ⟨a, cap, rfl, fun hp => by simp [marksG] at hp⟩, Below.refl _ _⟩
  · obtain ⟨g, rfl, hB, hf⟩ := hg (by omega)
    obtain ⟨b, off, hb, hq⟩ := hw (by omega)
    injection hb with hb
    injection hb with h1 h2
    subst h1 h2
    refine (markG_some g ps.length cap B w hn hB hf (fun j hj => ⟨_, _, _, by have := hq j hj; rwa [Nat.zero_add] at this⟩) (hq 0 (by omega)).lt).mono ?_
    rintro e w' ⟨rfl, hw', hb⟩
    exact ⟨rfl, ⟨_, cap, rfl, hw'⟩, hb⟩

set_option maxRecDepth 100000 in
set_option maxHeartbeats 2000000 in
theorem heldG_any (a : Option Addr) (n cap : Nat) (w : World) (hn : n ≤ 1048576) (h : Signs w a (marksG n)) :
    Calls Try.prog 10 #[.slice a n cap, .int .i64 1] w fun e w' => e = .returned (.int .i64 (3 * (n : Int) + 1)) ∧ Ext w w' := by
  have HA : Hid (Signs w a (marksG n)) := h
  clear h
  go_enter Try.func10, Try.ntmps10
  go_wp2_with fail
  go_loopw [1, 5] (fun kv i wr => ∃ (j kn : Nat), i = .int .i64 j ∧ kv = .int .i64 (kn : Int) ∧ j ≤ n ∧ kn ≤ 5000000 ∧ Hid (kn = 3 * j + 1) ∧ Ext w wr) (fun _ i _ => n - (intOf i).toNat)
  case atStart => exact ⟨0, 1, rfl, rfl, by omega, by omega, rfl, Ext.refl _⟩
  case round =>
    obtain ⟨j, kn, rfl, rfl, hj, hkn, HK, hE⟩ := hrel
    by_cases hlt : j < n
    · have bk : (j : Int) < (n : Int) := by omega
      obtain ⟨b, off, rfl, hq⟩ := (HA.out.ext hE).tri (k := j) (by rw [marksG_length]; exact hlt)
      obtain ⟨T, hT⟩ : ∃ T, T = markB (kn + 1) := ⟨_, rfl⟩
      have hq' : Tri wr b (off + j * 3) (kn : Int) T ((kn : Int) + 1 + 1) := by
        rw [marksG_getD _ _ hlt] at hq
        unfold markG at hq
        rw [← markB_txt] at hq
        have e1 : ((3 * j + 1 : Nat) : Int) = (kn : Int) := by have := HK.out; omega
        have e2 : 3 * j + 2 = kn + 1 := by have := HK.out; omega
        have e3 : ((3 * j + 3 : Nat) : Int) = (kn : Int) + 1 + 1 := by have := HK.out; omega
        rw [hT, ← e2, ← e1, ← e3] at *
        first | exact hq | (rw [e1, e3]; exact hq)
      have HM : Hid (∀ w : World, Calls Try.prog 24 #[.int .i64 ((kn : Int) + 1)] w fun e w' => e = .returned (.string T) ∧ Below w.heap.size w w') := fun w => by rw [hT]; exact markT_at kn w (by omega)
      have hlq := hq'.lt
      clear hq hT
      obtain ⟨c0, c1, c2⟩ := hq'
      have hq2 : Tri wr b (off + j * 3) (kn : Int) T ((kn : Int) + 1 + 1) := ⟨c0, c1, c2⟩
      have HE : Hid (Ext w wr) := hE
      clear hE
      go_wp2_with fail
      refine' wp_region_loose (.inl _ :: .inl _ :: .inl _ :: .inl _ :: .inl _ :: .inl _ :: .inl _ :: .inl _ :: []) (fun w' => Tri w' b (off + j * 3) (kn : Int) T ((kn : Int) + 1 + 1)) (by kernel_rfl) (by kernel_rfl) (hq2) (fun _ _ h hE => h.ext hE) ?hAa ?hla ?hMa
      case' hMa => skip
      apply wpLoose_val rfl rfl
      case hs =>
        intro w1 hC hd Q1 hQ1
        obtain ⟨hE, hS⟩ := hC
        dsimp only [bare]
        obtain ⟨q1, q2, q3⟩ := hS
        clear hd hE
        try clear hS
        go_wp2
        exact Ext.refl _
      case ha => rfl
      apply wpLoose_val rfl rfl
      case hs =>
        intro w1 hC hd Q1 hQ1
        obtain ⟨hE, hS⟩ := hC
        dsimp only [bare]
        obtain ⟨q1, q2, q3⟩ := hS
        clear hd hE
        try clear hS
        go_wp2
        exact Ext.refl _
      case ha => rfl
      apply wpLoose_val rfl rfl
      case hs =>
        intro w1 hC hd Q1 hQ1
        obtain ⟨hE, hS⟩ := hC
        dsimp only [bare]
        obtain ⟨q1, q2, q3⟩ := hS
        clear hd hE
        try clear hS
        go_wp2
        exact Ext.refl _
      case ha => rfl
      apply wpLoose_val rfl rfl
      case hs =>
        intro w1 hC hd Q1 hQ1
        obtain ⟨hE, hS⟩ := hC
        dsimp only [bare]
        obtain ⟨q1, q2, q3⟩ := hS
        clear hd hE
        try clear hS
        go_wp2
        exact Ext.refl _
      case ha => rfl
      apply wpLoose_val rfl rfl
      case hs =>
        intro w1 hC hd Q1 hQ1
        obtain ⟨hE, hS⟩ := hC
        dsimp only [bare]
        obtain ⟨q1, q2, q3⟩ := hS
        clear hd hE
        try clear hS
        go_wp2
        exact Ext.refl _
      case ha => rfl
      apply wpLoose_val rfl rfl
      case hs =>
        intro w1 hC hd Q1 hQ1
        obtain ⟨hE, hS⟩ := hC
        dsimp only [bare]
        obtain ⟨q1, q2, q3⟩ := hS
        clear hd hE
        try clear hS
        go_wp2
        exact Ext.refl _
      case ha => rfl
      apply wpLoose_val rfl rfl
      case hs =>
        intro w1 hC hd Q1 hQ1
        obtain ⟨hE, hS⟩ := hC
        dsimp only [bare]
        clear hd
        go_wp2_with fail
        refine (HM.out _).mono ?_
        rintro e w2 ⟨rfl, hb⟩
        go_wp2_with fail
        exact hb
      case ha => rfl
      apply wpLoose_val rfl rfl
      case hs =>
        intro w1 hC hd Q1 hQ1
        obtain ⟨hE, hS⟩ := hC
        dsimp only [bare]
        obtain ⟨q1, q2, q3⟩ := hS
        clear hd hE
        try clear hS
        go_wp2
        exact Ext.refl _
      case ha => rfl
      refine wpLoose_nil ?_
      intro wa hEa hSa hFa
      have HB2 : Hid (Ext w wa) := (HE.out.drew).trans hEa
      obtain ⟨d0, d1, d2⟩ := hSa
      clear hFa hEa c0 c1 c2 hq2 HE
      go_wp2
      go_roundw
      case rel => exact ⟨j + 1, kn + 1 + 1 + 1, by go_num, by go_num, by omega, by have := HK.out; omega, by have := HK.out; unfold Hid; omega, HB2.out⟩
      case measure => simp [intOf]; omega
      case hAa => kernel_rfl
      case hla => exact ⟨trivial, trivial, trivial, trivial, trivial, trivial, trivial, trivial, trivial⟩
    · have bk : ¬ ((j : Int) < (n : Int)) := by omega
      have hjn : j = n := by omega
      subst hjn
      go_wp2
      go_ret
      exact ⟨ret_int (by have := HK.out; omega), hE⟩

theorem SGf_length : ∀ f l o, SGf f l = some o → o.length ≤ f
  | 0, _, o, h => by simp only [SGf, Option.some.injEq] at h; subst h; simp
  | f + 1, [], o, h => by simp only [SGf, Option.some.injEq] at h; subst h; simp
  | f + 1, b :: r, o, h => by
    simp only [SGf] at h
    split at h
    · have := SGf_length f _ o h; omega
    · split at h
      · cases h
      · cases hx : SGf f ((b :: r).drop (wideL b r)) with
        | none => rw [hx] at h; cases h
        | some x =>
          rw [hx] at h
          simp only [Option.map_some, Option.some.injEq] at h
          subst h
          have := SGf_length f _ x hx
          simp
          omega

theorem signsR_length (l : List UInt8) : ((signsR l).getD []).length ≤ 1200 := by
  unfold signsR
  split
  · simp
  · rename_i hl
    cases h : SG l with
    | none => simp
    | some o =>
      have := SGf_length _ _ o h
      simp only [Option.getD_some]
      omega

end Go.Proofs.Ytfhkafbcopolcaa
