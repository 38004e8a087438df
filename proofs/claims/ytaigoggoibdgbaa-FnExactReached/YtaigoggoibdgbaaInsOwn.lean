/- A program laid out anew by the laws' toInsS may be written; markInsS writes into its block alone. -/
import Derived.Test.YtaigoggoibdgbaaInsSl
import Derived.Test.YtaigoggoibdgbaaWdBase
namespace Go.Proofs.Ytaigoggoibdgbaa
open Go.RowKit
set_option linter.unusedVariables false

set_option maxRecDepth 100000 in
set_option maxHeartbeats 2000000 in
theorem toInsS_own (a : Option Addr) (cap : Nat) (ws : List Wd) (w : World) (hl : ws.length ≤ 1048576) (h : Words w a ws) :
    Calls Try.prog 22 #[.slice a ws.length cap] w fun e w' => ∃ g, e = .returned (.slice (some ⟨g, 0, none⟩) ws.length ws.length) ∧ w.heap.size ≤ g ∧ Words w' (some ⟨g, 0, none⟩) ws ∧ Free4 w' g ws.length ∧ Below w.heap.size w w' := by
  obtain ⟨i0, hi, hz0, hz1, hz2⟩ := info_parts Try.infoN
  obtain ⟨n, hn⟩ : ∃ n, n = ws.length := ⟨_, rfl⟩
  have HA : Hid (Words w a ws ∧ n = ws.length) := ⟨h, hn⟩
  rw [← hn]
  have hl' : n ≤ 1048576 := by omega
  clear h hn hl
  go_enter Try.func22, Try.ntmps22
  go_wp2_with (at_make; refine wpList_make_full _ rfl _ _ 24 rfl w.heap.size 34 i0 (.agg #[.int .i64 0, .int .i64 0, .int .i64 0, .int .i64 0]) 4 Try.underlying24 hi hz0 hz1 _ _ _ _ n rfl rfl (by omega) (by omega) (by rw [hz2]; omega) (by unfold maxLen; omega) (Nat.le_refl _) ?_; intro w0 hown0 hgrow0)
  have b0 : Below w.heap.size w w0 := (Below.refl _ w).grown hgrow0 (Nat.le_refl _) (fun k hk => by cases hk)
  have m0 := made_words hown0
  clear hown0 hgrow0
  obtain ⟨g, hg⟩ : ∃ g, g = w.heap.size := ⟨_, rfl⟩
  rw [← hg] at m0 ⊢
  have hg0 := m0.1
  have HM : Hid (Free4 w0 g n ∧ ∀ j, j < n → Quad w0 g (j * 4) zeroW) := ⟨fun j hj => (m0.2 j hj).2, fun j hj => ⟨(m0.2 _ (by omega)).1, (m0.2 _ (by omega)).1, (m0.2 _ (by omega)).1, (m0.2 _ (by omega)).1⟩⟩
  clear m0
  go_loopw [4] (fun i wr => ∃ k : Nat, i = .int .i64 k ∧ k ≤ n ∧ Hid (Below w.heap.size w wr ∧ g < wr.heap.size ∧ Free4 wr g n ∧ ∀ j, j < n → ∃ q, Quad wr g (j * 4) q ∧ (j < k → q = ws.getD j zeroW))) (fun i _ => n - (intOf i).toNat)
  case atStart => exact ⟨0, rfl, by omega, b0, hg0, HM.out.1, fun j hj => ⟨zeroW, HM.out.2 j hj, fun h => by omega⟩⟩
  case round =>
    obtain ⟨k, rfl, hk, HR⟩ := hrel
    clear b0 hg0 HM
    by_cases hlt : k < n
    · have bk : (k : Int) < (n : Int) := by omega
      obtain ⟨⟨o, kk, y, nn⟩, hp⟩ : ∃ p, p = ws.getD k zeroW := ⟨_, rfl⟩
      obtain ⟨b, off, ha, hq⟩ := (HA.out.1.below HR.out.1 (Nat.le_refl _)).quad (k := k) (by have := HA.out.2; omega) hp
      subst ha
      obtain ⟨c0, c1, c2, c3⟩ := hq
      simp only at c0 c1 c2 c3
      have HP : Hid ((o, kk, y, nn) = ws.getD k zeroW) := hp
      have HG : Hid (g = w.heap.size) := hg
      clear hp hg
      go_wp2_with fail
      refine (toIns_any o kk y nn _).mono ?_
      rintro e w2 ⟨rfl, hb2⟩
      have HC2 : Hid (Below w.heap.size w w2 ∧ g < w2.heap.size ∧ Free4 w2 g n ∧ ∀ j, j < n → ∃ q, Quad w2 g (j * 4) q ∧ (j < k → q = ws.getD j zeroW)) := by
        obtain ⟨hb, hgs, hfr, hcell⟩ := HR.out
        refine ⟨hb.trans (Below.mono hb2 hb.size), Nat.lt_of_lt_of_le hgs hb2.size, fun j hj => (hb2.frozen (p := ⟨g, j, none⟩) hgs).trans (hfr j hj), fun j hj => ?_⟩
        obtain ⟨q, e1, e2⟩ := hcell j hj
        exact ⟨q, e1.below hb2 hgs, e2⟩
      obtain ⟨q, ⟨d0, d1, d2, d3⟩, _⟩ := HC2.out.2.2.2 k hlt
      have f0 := HC2.out.2.2.1 (k * 4) (by omega)
      have f1 := HC2.out.2.2.1 (k * 4 + 1) (by omega)
      have f2 := HC2.out.2.2.1 (k * 4 + 2) (by omega)
      have f3 := HC2.out.2.2.1 (k * 4 + 3) (by omega)
      clear hb2 HR c0 c1 c2 c3
      go_wp2
      go_roundw
      case rel =>
        obtain ⟨hb, hgs, hfr, hcell⟩ := HC2.out
        have hgw : w.heap.size ≤ g := by have := HG.out; omega
        refine ⟨k + 1, by go_num, by omega, Below.put4 hb hgw (k * 4) (o, kk, y, nn), by have := put4_size w2 g (k * 4) (o, kk, y, nn); unfold put4 at this; rw [this]; exact hgs, fun j hj => (put4_frozen w2 g (k * 4) (o, kk, y, nn) _).trans (hfr j hj), fun j hj => ?_⟩
        obtain ⟨q, e1, e2⟩ := hcell j hj
        by_cases hjk : j = k
        · subst hjk
          exact ⟨(o, kk, y, nn), put4_quad w2 g (j * 4) (o, kk, y, nn) q e1, fun _ => HP.out⟩
        · have hf := put4_far w2 g (k * 4) (o, kk, y, nn)
          exact ⟨q, ⟨(hf _ (fun i hi => off_ne (by omega))).trans e1.1, (hf _ (fun i hi => off_ne (by omega))).trans e1.2.1, (hf _ (fun i hi => off_ne (by omega))).trans e1.2.2.1, (hf _ (fun i hi => off_ne (by omega))).trans e1.2.2.2⟩, fun h => e2 (by omega)⟩
      case measure => simp [intOf]; omega
    · have hkn : k = n := by omega
      have bk : ¬ ((k : Int) < (n : Int)) := by omega
      obtain ⟨hb, hgs, hfree, hcell⟩ := HR.out
      have HFR : Hid (Free4 wr g n) := hfree
      have HE : Hid (Words wr (some ⟨g, 0, none⟩) ws) := fun hp => by
        refine ⟨g, 0, rfl, fun j hj => ?_⟩
        obtain ⟨q, e1, e2⟩ := hcell j (by have := HA.out.2; omega)
        rw [← e2 (by have := HA.out.2; omega), Nat.zero_add]
        exact e1
      have HG : Hid (w.heap.size ≤ g) := by unfold Hid; omega
      have HB : Hid (Below w.heap.size w wr) := hb
      clear hcell hkn hgs hg hb HR hfree
      go_wp2
      go_ret
      exact ⟨g, rfl, HG.out, HE.out, HFR.out, HB.out⟩

theorem grown_put4 {w W : World} {g : Nat} (h : w.grownBy W (some g)) (o : Nat) (p : Wd) : w.grownBy (put4 W g o p) (some g) := grown_trans (grown_trans (grown_trans (grown_trans h grown_set) grown_set) grown_set) grown_set

set_option maxRecDepth 100000 in
set_option maxHeartbeats 2000000 in
theorem markIns_own (g n cap : Nat) (w : World) (hn : n ≤ 1048576) (hf : Free4 w g n) (hq : ∀ j, j < n → ∃ q, Quad w g (j * 4) q) :
    Calls Try.prog 28 #[.slice (some ⟨g, 0, none⟩) n cap, .int .i64 1] w fun e w' => e = .returned (.int .i64 (4 * (n : Int) + 1)) ∧ w.grownBy w' (some g) := by
  have HA : Hid (Free4 w g n ∧ (∀ j, j < n → ∃ q, Quad w g (j * 4) q)) := ⟨hf, hq⟩
  clear hf hq
  go_enter Try.func28, Try.ntmps28
  go_wp2_with fail
  go_loopw [1, 5] (fun kv i wr => ∃ (j : Nat) (K : Int), i = .int .i64 j ∧ kv = .int .i64 K ∧ j ≤ n ∧ K ≤ 5000000 ∧ 0 ≤ K ∧ Hid (K = 4 * (j : Int) + 1 ∧ w.grownBy wr (some g) ∧ Free4 wr g n ∧ ∀ i, i < n → ∃ q, Quad wr g (i * 4) q)) (fun _ i _ => n - (intOf i).toNat)
  case atStart => exact ⟨0, 1, rfl, rfl, by omega, by omega, by omega, rfl, grown_refl _ _, HA.out.1, HA.out.2⟩
  case round =>
    obtain ⟨j, K, rfl, rfl, hj, hK, hK0, HR⟩ := hrel
    by_cases hlt : j < n
    · have bk : (j : Int) < (n : Int) := by omega
      obtain ⟨q, c0, c1, c2, c3⟩ := HR.out.2.2.2 j hlt
      have f0 := HR.out.2.2.1 (j * 4) (by omega)
      have f1 := HR.out.2.2.1 (j * 4 + 1) (by omega)
      have f2 := HR.out.2.2.1 (j * 4 + 2) (by omega)
      have f3 := HR.out.2.2.1 (j * 4 + 3) (by omega)
      go_wp2
      go_roundw
      case rel =>
        obtain ⟨hKe, hgr, hfr, hcell⟩ := HR.out
        refine ⟨j + 1, K + 1 + 1 + 1 + 1, by go_num, rfl, by omega, by omega, by omega, by omega, grown_put4 hgr (j * 4) (K, K + 1, K + 1 + 1, K + 1 + 1 + 1), fun x hx => (put4_frozen wr g (j * 4) (K, K + 1, K + 1 + 1, K + 1 + 1 + 1) _).trans (hfr x hx), fun i hi => ?_⟩
        obtain ⟨q', e1⟩ := hcell i hi
        by_cases hij : i = j
        · subst hij
          exact ⟨_, put4_quad wr g (i * 4) (K, K + 1, K + 1 + 1, K + 1 + 1 + 1) q' e1⟩
        · have hf := put4_far wr g (j * 4) (K, K + 1, K + 1 + 1, K + 1 + 1 + 1)
          exact ⟨q', (hf _ (fun x hx => off_ne (by omega))).trans e1.1, (hf _ (fun x hx => off_ne (by omega))).trans e1.2.1, (hf _ (fun x hx => off_ne (by omega))).trans e1.2.2.1, (hf _ (fun x hx => off_ne (by omega))).trans e1.2.2.2⟩
      case measure => simp [intOf]; omega
    · have bk : ¬ ((j : Int) < (n : Int)) := by omega
      have hjn : j = n := by omega
      have HZ : Hid (K = 4 * (n : Int) + 1) := by have := HR.out.1; unfold Hid; omega
      have HG : Hid (w.grownBy wr (some g)) := HR.out.2.1
      clear hjn HR
      go_wp2
      go_ret
      exact ⟨by rw [HZ.out]; rfl, HG.out⟩

end Go.Proofs.Ytaigoggoibdgbaa
