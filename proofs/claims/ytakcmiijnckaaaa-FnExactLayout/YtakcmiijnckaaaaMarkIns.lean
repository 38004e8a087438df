/- What the laws' markInsS and heldInsS do to a row of words. -/
import Derived.Test.YtakcmiijnckaaaaOwnWords
namespace Go.Proofs.Ytakcmiijnckaaaa
open Go.RowKit
set_option linter.unusedVariables false

def markW (j : Nat) : Wd := ((4 * j + 1 : Int), (4 * j + 1 + 1 : Int), (4 * j + 1 + 1 + 1 : Int), (4 * j + 1 + 1 + 1 + 1 : Int))

def marksW (n : Nat) : List Wd := (List.range n).map markW

theorem marksW_length (n : Nat) : (marksW n).length = n := by simp [marksW]

theorem marksW_getD (n j : Nat) (h : j < n) : (marksW n).getD j zeroW = markW j := by simp [marksW, List.getD_eq_getElem?_getD, h]

set_option maxRecDepth 100000 in
set_option maxHeartbeats 2000000 in
theorem mark_some (g n cap B : Nat) (w : World) (hn : n ≤ 1048576) (hB : B ≤ g) (hf : ∀ j, w.frozen? ⟨g, j, none⟩ = false) (hq : ∀ j, j < n → ∃ q, Quad w g (j * 4) q) (hg : g < w.heap.size) :
    Calls Try.prog 33 #[.slice (some ⟨g, 0, none⟩) n cap, .int .i64 1] w fun e w' => e = .returned (.int .i64 (4 * (n : Int) + 1)) ∧ Words w' (some ⟨g, 0, none⟩) (marksW n) ∧ Below B w w' := by
  have HA : Hid ((∀ j, w.frozen? ⟨g, j, none⟩ = false) ∧ (∀ j, j < n → ∃ q, Quad w g (j * 4) q) ∧ B ≤ g ∧ g < w.heap.size) := ⟨hf, hq, hB, hg⟩
  clear hf hq hB hg
  go_enter Try.func33, Try.ntmps33
  go_wp2_with fail
  go_loopw [1, 5] (fun kv i wr => ∃ (j : Nat) (K : Int), i = .int .i64 j ∧ kv = .int .i64 K ∧ j ≤ n ∧ K ≤ 5000000 ∧ 0 ≤ K ∧ Hid (K = 4 * (j : Int) + 1 ∧ Below B w wr ∧ (∀ j, wr.frozen? ⟨g, j, none⟩ = false) ∧ (∀ i, i < n → ∃ q, Quad wr g (i * 4) q ∧ (i < j → q = markW i)))) (fun _ i _ => n - (intOf i).toNat)
  case atStart => exact ⟨0, 1, rfl, rfl, by omega, by omega, by omega, rfl, Below.refl _ _, HA.out.1, fun i hi => by obtain ⟨q, h⟩ := HA.out.2.1 i hi; exact ⟨q, h, fun h => by omega⟩⟩
  case round =>
    obtain ⟨j, K, rfl, rfl, hj, hK, hK0, HR⟩ := hrel
    by_cases hlt : j < n
    · have bk : (j : Int) < (n : Int) := by omega
      obtain ⟨q, ⟨c0, c1, c2, c3⟩, _⟩ := HR.out.2.2.2 j hlt
      have f := HR.out.2.2.1
      go_wp2
      go_roundw
      case rel =>
        obtain ⟨hKe, hb, hfr, hcell⟩ := HR.out
        refine ⟨j + 1, K + 1 + 1 + 1 + 1, by go_num, rfl, by omega, by omega, by omega, by omega, Below.put4 hb HA.out.2.2.1 (j * 4) (K, K + 1, K + 1 + 1, K + 1 + 1 + 1), fun x => (put4_frozen wr g (j * 4) (K, K + 1, K + 1 + 1, K + 1 + 1 + 1) _).trans (hfr x), fun i hi => ?_⟩
        obtain ⟨q', e1, e2⟩ := hcell i hi
        by_cases hij : i = j
        · subst hij
          exact ⟨_, put4_quad wr g (i * 4) (K, K + 1, K + 1 + 1, K + 1 + 1 + 1) q' e1, fun _ => by rw [hKe]; rfl⟩
        · have hf := put4_far wr g (j * 4) (K, K + 1, K + 1 + 1, K + 1 + 1 + 1)
          exact ⟨q', ⟨(hf _ (fun x hx => off_ne (by omega))).trans e1.1, (hf _ (fun x hx => off_ne (by omega))).trans e1.2.1, (hf _ (fun x hx => off_ne (by omega))).trans e1.2.2.1, (hf _ (fun x hx => off_ne (by omega))).trans e1.2.2.2⟩, fun h => e2 (by omega)⟩
      case measure => simp [intOf]; omega
    · have bk : ¬ ((j : Int) < (n : Int)) := by omega
      have hjn : j = n := by omega
      subst hjn
      go_wp2
      go_ret
      refine ⟨ret_int HR.out.1, fun hp => ⟨g, 0, rfl, fun i hi => ?_⟩, HR.out.2.1⟩
      rw [marksW_length] at hi
      obtain ⟨q, e1, e2⟩ := HR.out.2.2.2 i hi
      rw [marksW_getD _ _ hi, ← e2 hi, Nat.zero_add]
      exact e1

theorem mark_none (a : Option Addr) (cap : Nat) (w : World) : Calls Try.prog 33 #[.slice a 0 cap, .int .i64 1] w fun e w' => e = .returned (.int .i64 1) ∧ w = w' := by
  go_enter Try.func33, Try.ntmps33
  go_wp2_with fail
  go_loopw [1, 5] (fun kv i wr => i = .int .i64 0 ∧ kv = .int .i64 1 ∧ w = wr) (fun _ i _ => 0)
  case atStart => exact ⟨rfl, rfl, rfl⟩
  case round =>
    obtain ⟨rfl, rfl, rfl⟩ := hrel
    go_wp2
    go_ret
    exact ⟨rfl, rfl⟩

theorem markIns_any (B : Nat) (v : Value) (ws : List Wd) (w : World) (hn : ws.length ≤ 1048576) (h : Own4 w B v ws) :
    Calls Try.prog 33 #[v, .int .i64 1] w fun e w' => e = .returned (.int .i64 (4 * (ws.length : Int) + 1)) ∧ (∃ a cap, v = .slice a ws.length cap ∧ Words w' a (marksW ws.length)) ∧ Below B w w' := by
  obtain ⟨a, cap, rfl, _, hw, hg⟩ := h.words
  by_cases h0 : ws.length = 0
  · rw [h0]
    refine (mark_none a cap w).mono ?_
    rintro e w' ⟨rfl, rfl⟩
    exact ⟨rfl, ⟨a, cap, rfl, fun hp => by simp [marksW] at hp⟩, Below.refl _ _⟩
  · obtain ⟨g, rfl, hB, hf⟩ := hg (by omega)
    obtain ⟨b, off, hb, hq⟩ := hw (by omega)
    injection hb with hb
    injection hb with h1 h2
    subst h1 h2
    refine (mark_some g ws.length cap B w hn hB hf (fun j hj => ⟨_, by have := hq j hj; rwa [Nat.zero_add] at this⟩) (by have := (hq 0 (by omega)).lt; exact this)).mono ?_
    rintro e w' ⟨rfl, hw', hb⟩
    exact ⟨rfl, ⟨_, cap, rfl, hw'⟩, hb⟩

set_option maxRecDepth 100000 in
set_option maxHeartbeats 2000000 in
theorem heldIns_any (a : Option Addr) (n cap : Nat) (w : World) (hn : n ≤ 1048576) (h : Words w a (marksW n)) :
    Calls Try.prog 34 #[.slice a n cap, .int .i64 1] w fun e w' => e = .returned (.int .i64 (4 * (n : Int) + 1)) ∧ w = w' := by
  have HA : Hid (Words w a (marksW n)) := h
  clear h
  go_enter Try.func34, Try.ntmps34
  go_wp2_with fail
  go_loopw [1, 5] (fun kv i wr => ∃ (j : Nat) (K : Int), i = .int .i64 j ∧ kv = .int .i64 K ∧ j ≤ n ∧ K ≤ 5000000 ∧ 0 ≤ K ∧ Hid (K = 4 * (j : Int) + 1) ∧ w = wr) (fun _ i _ => n - (intOf i).toNat)
  case atStart => exact ⟨0, 1, rfl, rfl, by omega, by omega, by omega, rfl, rfl⟩
  case round =>
    obtain ⟨j, K, rfl, rfl, hj, hK, hK0, HK, rfl⟩ := hrel
    by_cases hlt : j < n
    · have bk : (j : Int) < (n : Int) := by omega
      obtain ⟨b, off, rfl, hq⟩ := HA.out.quad (k := j) (by rw [marksW_length]; exact hlt) (marksW_getD n j hlt).symm
      have hm : markW j = (K, K + 1, K + 1 + 1, K + 1 + 1 + 1) := by rw [HK.out]; rfl
      rw [hm] at hq
      obtain ⟨c0, c1, c2, c3⟩ := hq
      simp only at c0 c1 c2 c3
      clear hm
      go_wp2
      go_roundw
      case rel => exact ⟨j + 1, K + 1 + 1 + 1 + 1, by go_num, rfl, by omega, by have := HK.out; omega, by omega, by have := HK.out; unfold Hid; omega, trivial⟩
      case measure => simp [intOf]; omega
    · have bk : ¬ ((j : Int) < (n : Int)) := by omega
      have hjn : j = n := by omega
      subst hjn
      go_wp2
      go_ret
      exact ⟨ret_int HK.out, rfl⟩

end Go.Proofs.Ytakcmiijnckaaaa
