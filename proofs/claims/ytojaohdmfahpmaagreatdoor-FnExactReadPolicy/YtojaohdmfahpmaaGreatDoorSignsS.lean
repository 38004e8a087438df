/- What spec's SignsOf answers of every text: its signs, in memory of its own. -/
import Derived.Test.YtojaohdmfahpmaaGreatDoorSignsI
namespace Go.Proofs.YtojaohdmfahpmaaGreatDoor
open Go.RowKit
set_option linter.unusedVariables false

/-- How many bytes from a on lie in lo .. hi. -/
def runIn (lo hi : Nat) (l : List UInt8) : Nat := (l.takeWhile fun b => decide (lo ≤ b.toNat) && decide (b.toNat ≤ hi)).length

theorem runIn_name (l : List UInt8) : runIn 97 122 l = runL 1 l := by
  have e : (fun b : UInt8 => decide (97 ≤ b.toNat) && decide (b.toNat ≤ 122)) = fun b => kindB b == 1 := by
    funext b
    rw [Bool.eq_iff_iff]
    simp [kindB_1]
  unfold runIn runL
  rw [e]

theorem runIn_num (l : List UInt8) : runIn 48 57 l = runL 2 l := by
  have e : (fun b : UInt8 => decide (48 ≤ b.toNat) && decide (b.toNat ≤ 57)) = fun b => kindB b == 2 := by
    funext b
    rw [Bool.eq_iff_iff]
    simp [kindB_2]
  unfold runIn runL
  rw [e]

theorem runIn_stop {lo hi : Nat} {l : List UInt8} {m : Nat} (hm : m ≤ l.length) (ha : ∀ j b, j < m → l[j]? = some b → lo ≤ b.toNat ∧ b.toNat ≤ hi) (hs : m = l.length ∨ ∃ b, l[m]? = some b ∧ ¬ (lo ≤ b.toNat ∧ b.toNat ≤ hi)) : runIn lo hi l = m := by
  induction m generalizing l with
  | zero =>
    unfold runIn
    cases l with
    | nil => rfl
    | cons b r =>
      rcases hs with h | ⟨x, hx, hk⟩
      · simp at h
      · simp only [List.getElem?_cons_zero, Option.some.injEq] at hx
        subst hx
        rw [List.takeWhile_cons_of_neg (by simpa using hk)]
        rfl
  | succ m ih =>
    cases l with
    | nil => simp at hm
    | cons b r =>
      have hb := ha 0 b (by omega) rfl
      unfold runIn
      rw [List.takeWhile_cons_of_pos (by simpa using hb), List.length_cons]
      have := ih (l := r) (by simpa using hm) (fun j x hj hx => ha (j + 1) x (by omega) (by simpa using hx)) (by simpa using hs)
      unfold runIn at this
      rw [this]

set_option maxRecDepth 100000 in
set_option maxHeartbeats 1000000 in
theorem word_any (s : ByteArray) (a lo hi : Nat) (w : World) (hs : s.size ≤ 1200) (ha : a ≤ s.size) (hlo : lo < 256) (hhi : hi < 256) :
    Calls Tryz.prog 70 #[.string s, .int .i64 a, .int .u8 lo, .int .u8 hi] w fun e w' => e = .returned (.int .i64 ((runIn lo hi (s.data.toList.drop a) : Nat) : Int)) ∧ w = w' := by
  have hlen : s.data.toList.length = s.size := by simp
  have HL : Hid (s.data.toList.length = s.size) := hlen
  clear hlen
  go_enter Tryz.func70, Tryz.ntmps70
  go_wp2
  go_loop [9] (fun nv => ∃ m : Nat, nv = .int .i64 ((a + m : Nat) : Int) ∧ a + m ≤ s.size ∧ Hid (∀ j b, j < m → (s.data.toList.drop a)[j]? = some b → lo ≤ b.toNat ∧ b.toNat ≤ hi)) (fun nv => s.size - (intOf nv).toNat)
  case atStart => exact ⟨0, rfl, by omega, fun j b h => by omega⟩
  case round =>
    obtain ⟨m, rfl, hm, HA⟩ := hrel
    obtain ⟨p, hp⟩ : ∃ p, p = a + m := ⟨_, rfl⟩
    rw [← hp] at hm ⊢
    have HP : Hid (p = a + m) := hp
    clear hp
    by_cases hlt : p < s.size
    · have bl : (p : Int) < (s.size : Int) := by omega
      have hb : Hid ((s.data.toList.drop a)[m]? = some s[p]) := by
        unfold Hid
        rw [List.getElem?_drop, ← HP.out, List.getElem?_eq_getElem (by have := HL.out; omega)]
        rfl
      have hx : s[p].toNat < 256 := s[p].toNat_lt
      by_cases h1 : lo ≤ s[p].toNat
      · have d1 : (lo : Int) ≤ (s[p].toNat : Int) := by omega
        by_cases h2 : s[p].toNat ≤ hi
        · have d2 : (s[p].toNat : Int) ≤ (hi : Int) := by omega
          have HA' : Hid (∀ j b, j < m + 1 → (s.data.toList.drop a)[j]? = some b → lo ≤ b.toNat ∧ b.toNat ≤ hi) := by
            intro j b hj hjb
            rcases Nat.lt_or_ge j m with h | h
            · exact HA.out j b h hjb
            · have : j = m := by omega
              subst this
              rw [hb.out] at hjb
              obtain rfl := Option.some.inj hjb
              exact ⟨h1, h2⟩
          clear HA hb
          go_wp2
          go_round
          case rel => exact ⟨m + 1, by have := HP.out; go_num, by have := HP.out; omega, HA'⟩
          case measure => simp [intOf]; omega
        · have d2 : ¬ (s[p].toNat : Int) ≤ (hi : Int) := by omega
          have HF : Hid (runIn lo hi (s.data.toList.drop a) = m) := runIn_stop (by simp; have := HP.out; have := HL.out; omega) HA.out (.inr ⟨_, hb.out, fun h => h2 h.2⟩)
          clear HA hb
          go_wp2
          go_ret
          exact ⟨by rw [HF.out]; exact ret_int (by have := HP.out; omega), rfl⟩
      · have d1 : ¬ (lo : Int) ≤ (s[p].toNat : Int) := by omega
        have HF : Hid (runIn lo hi (s.data.toList.drop a) = m) := runIn_stop (by simp; have := HP.out; have := HL.out; omega) HA.out (.inr ⟨_, hb.out, fun h => h1 h.1⟩)
        clear HA hb
        go_wp2
        go_ret
        exact ⟨by rw [HF.out]; exact ret_int (by have := HP.out; omega), rfl⟩
    · have bl : ¬ (p : Int) < (s.size : Int) := by omega
      have HF : Hid (runIn lo hi (s.data.toList.drop a) = m) := runIn_stop (by simp; have := HP.out; have := HL.out; omega) HA.out (.inl (by simp; have := HP.out; have := HL.out; omega))
      clear HA
      go_wp2
      go_ret
      exact ⟨by rw [HF.out]; exact ret_int (by have := HP.out; omega), rfl⟩

def markB8 : List ByteArray := markL.map txt

theorem marks_row (w : World) : (w.alloc (.cells (rowS markB8).toArray 9)).ownsRow w.heap.size 9 1 (.slice (some ⟨w.heap.size, 0, none⟩) 10 10) 10 (rowS markB8) :=
  World.ownsRow_lit (base := w.heap.size) (e := 9) (size := 1) w (rowS markB8).toArray 10 (Nat.le_refl _) (by decide) rfl

theorem sMarks_any (w : World) :
    Calls Tryz.prog 111 #[] w fun e w' => ∃ g, e = .returned (.slice (some ⟨g, 0, none⟩) 10 10) ∧ w.heap.size ≤ g ∧ w'.ownsRow w.heap.size 9 1 (.slice (some ⟨g, 0, none⟩) 10 10) 10 (rowS markB8) ∧ Ext w w' := by
  go_enter Tryz.func111, Tryz.ntmps111
  go_wp2
  go_ret
  exact ⟨w.heap.size, rfl, Nat.le_refl _, marks_row w, Ext.one _ _⟩

theorem mark_cell {w : World} {B g : Nat} (h : w.ownsRow B 9 1 (.slice (some ⟨g, 0, none⟩) 10 10) 10 (rowS markB8)) (k : Nat) (hk : k < 10) : w.cell? ⟨g, k, none⟩ = some (.string (txt (markL.getD k []))) := by
  rw [h.cellAt k hk, rowS_at markB8 k hk]
  have hk' : k < markL.length := hk
  simp [markB8, hk']

theorem markAt_found {l : List UInt8} {k : Nat} (hk : k < 10) (h : l.take (markL.getD k []).length = markL.getD k []) (hn : ∀ j, j < k → ¬ l.take (markL.getD j []).length = markL.getD j []) : markAt l = markL.getD k [] := by
  have hk' : k < markL.length := hk
  have e : ∀ j (hj : j < markL.length), markL.getD j [] = markL[j] := fun j hj => by rw [List.getD_eq_getElem?_getD, List.getElem?_eq_getElem hj]; rfl
  unfold markAt
  have : markL.find? (fun m => l.take m.length == m) = some (markL.getD k []) := by
    rw [List.find?_eq_some_iff_getElem]
    refine ⟨by simpa using h, k, hk', (e k hk').symm, fun j hj => ?_⟩
    have := hn j hj
    rw [e j (by omega)] at this
    simpa using this
  rw [this]
  rfl

theorem markAt_not {l : List UInt8} (hn : ∀ j, j < 10 → ¬ l.take (markL.getD j []).length = markL.getD j []) : markAt l = [] := by
  unfold markAt
  have : markL.find? (fun m => l.take m.length == m) = none := by
    rw [List.find?_eq_none]
    intro m hm hc
    obtain ⟨j, hj, rfl⟩ := List.getElem_of_mem hm
    have := hn j hj
    rw [List.getD_eq_getElem?_getD, List.getElem?_eq_getElem hj] at this
    exact this (by simpa using hc)
  rw [this]
  rfl

theorem markL_len : ∀ k, k < 10 → (markL.getD k []).length = 1 ∨ (markL.getD k []).length = 2 := by decide

set_option maxRecDepth 100000 in
set_option maxHeartbeats 1000000 in
theorem sMark_any (s : ByteArray) (a : Nat) (w : World) (hs : s.size ≤ 1200) (ha : a ≤ s.size) :
    Calls Tryz.prog 72 #[.string s, .int .i64 a] w fun e w' => e = .returned (.string (txt (markAt (s.data.toList.drop a)))) ∧ Ext w w' := by
  have hlen : s.data.toList.length = s.size := by simp
  have HL : Hid (s.data.toList.length = s.size) := hlen
  clear hlen
  obtain ⟨l, hl⟩ : ∃ l, l = s.data.toList.drop a := ⟨_, rfl⟩
  rw [← hl]
  have HLL : Hid (l = s.data.toList.drop a) := hl
  clear hl
  go_enter Tryz.func72, Tryz.ntmps72
  go_wp2_with fail
  refine (sMarks_any _).mono ?_
  rintro e w1 ⟨g, rfl, hg, hown, hb1⟩
  have HO : Hid (w1.ownsRow w.heap.size 9 1 (.slice (some ⟨g, 0, none⟩) 10 10) 10 (rowS markB8)) := hown
  clear hown
  go_wp2
  go_loopw [6] (fun i wr => ∃ k : Nat, i = .int .i64 k ∧ k ≤ 10 ∧ Hid (∀ j, j < k → ¬ l.take (markL.getD j []).length = markL.getD j []) ∧ Ext w1 wr) (fun i _ => 10 - (intOf i).toNat)
  case atStart => exact ⟨0, rfl, by omega, fun j hj => by omega, Ext.refl _⟩
  case round =>
    obtain ⟨k, rfl, hk, HN, hE⟩ := hrel
    by_cases hlt : k < 10
    · have hc := mark_cell (own_below HO.out hE) k hlt
      have hml := markL_len k hlt
      obtain ⟨m, hm⟩ : ∃ m, m = markL.getD k [] := ⟨_, rfl⟩
      rw [← hm] at hc hml
      obtain ⟨n, hn⟩ : ∃ n, n = m.length := ⟨_, rfl⟩
      obtain ⟨M, hM⟩ : ∃ M, M = txt m := ⟨_, rfl⟩
      have hMs : M.size = n := by rw [hM, hn]; rfl
      rw [← hn] at hml
      rw [← hM] at hc
      have HM : Hid (M = txt m ∧ n = m.length ∧ m = markL.getD k []) := ⟨hM, hn, hm⟩
      have HMS : Hid (M.size = n) := hMs
      have hki : (k : Int) < 10 := by omega
      clear hM hn hm
      by_cases hfit : a + n ≤ s.size
      · obtain ⟨T, hT⟩ : ∃ T, T = s.extract a (a + n) := ⟨_, rfl⟩
        have HT : Hid (T = txt (l.take n)) := by
          rw [hT, cutB, HLL.out]
          unfold Hid cutL
          rw [show a + n - a = n by omega]
        have hex : s.extract a (a + n) = T := hT.symm
        clear hT
        have hfi : (a : Int) + (n : Int) ≤ (s.size : Int) := by omega
        have hfd : decide ((a : Int) + (n : Int) ≤ (s.size : Int)) = true := by simp; omega
        by_cases heq : T = M
        · have HF : Hid (markAt l = m) := by
            obtain ⟨h1, h2, h3⟩ := HM.out
            have h4 : l.take n = m := txt_inj (by rw [← HT.out, ← h1]; exact heq)
            rw [h3]
            exact markAt_found hlt (by rw [← h3, ← h2]; exact h4) HN.out
          subst heq
          clear HN
          go_wp2_with (first | rw [hMs] | rw [hex])
          go_quiet (fail)
          go_wp2
          go_ret
          exact ⟨by rw [HF.out, ← HM.out.1]; rfl, below_drewN (hb1.trans hE) _⟩
        · have hne : (T.toList == M.toList) = false := by
            rw [beq_eq_false_iff_ne]
            intro h
            apply heq
            rw [ByteArray.toList_eq, ByteArray.toList_eq] at h
            have := congrArg txt h
            rwa [txt_data, txt_data] at this
          have HN' : Hid (∀ j, j < k + 1 → ¬ l.take (markL.getD j []).length = markL.getD j []) := by
            intro j hj
            rcases Nat.lt_or_ge j k with h | h
            · exact HN.out j h
            · have : j = k := by omega
              subst this
              obtain ⟨h1, h2, h3⟩ := HM.out
              rw [← h3, ← h2]
              intro h4
              exact heq (by rw [HT.out, h4, h1])
          clear heq HN
          go_wp2_with (first | rw [hMs] | rw [hex])
          go_quiet (fail)
          go_wp2
          go_roundw
          case rel => exact ⟨k + 1, by go_num, by omega, HN', below_drewN hE _⟩
          case measure => simp [intOf]; omega
      · have hfd : decide ((a : Int) + (n : Int) ≤ (s.size : Int)) = false := by simp; omega
        have HN' : Hid (∀ j, j < k + 1 → ¬ l.take (markL.getD j []).length = markL.getD j []) := by
          intro j hj
          rcases Nat.lt_or_ge j k with h | h
          · exact HN.out j h
          · have : j = k := by omega
            subst this
            obtain ⟨h1, h2, h3⟩ := HM.out
            rw [← h3, ← h2]
            intro h4
            have h5 := congrArg List.length h4
            rw [List.length_take, ← h2, HLL.out, List.length_drop, HL.out] at h5
            omega
        clear HN
        go_wp2_with (rw [hMs])
        go_quiet (fail)
        go_wp2
        go_roundw
        case rel => exact ⟨k + 1, by go_num, by omega, HN', below_drewN hE _⟩
        case measure => simp [intOf]; omega
    · have HF : Hid (markAt l = []) := markAt_not fun j hj => HN.out j (by omega)
      clear HN
      go_wp2
      go_ret
      exact ⟨by rw [HF.out]; rfl, hb1.trans hE⟩

end Go.Proofs.YtojaohdmfahpmaaGreatDoor
