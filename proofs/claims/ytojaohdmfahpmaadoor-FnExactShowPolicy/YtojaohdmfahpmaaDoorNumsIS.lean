/- What impl's and spec's small functions over a rule's numbers and conditions answer. -/
import Derived.Test.YtojaohdmfahpmaaDoorRowz
namespace Go.Proofs.YtojaohdmfahpmaaDoor
open Go.RowKit
set_option linter.unusedVariables false

def okAt (zs : List Int) (i : Nat) : Bool := halfB (zs.getD i 0) && (decide (i = 0) || decide (zs.getD (i - 1) 0 < zs.getD i 0))

theorem numsB_okAt (zs : List Int) : numsB zs = (decide (zs.length ≤ 4) && (List.range zs.length).all (okAt zs)) := rfl

theorem okAll_more {zs : List Int} {k : Nat} (h : (List.range k).all (okAt zs) = true) (hk : okAt zs k = true) : (List.range (k + 1)).all (okAt zs) = true := by
  rw [List.range_succ, List.all_append, h]
  simp [hk]

theorem okAll_bad {zs : List Int} {k : Nat} (hk : k < zs.length) (h : okAt zs k = false) : (List.range zs.length).all (okAt zs) = false := by
  rw [Bool.eq_false_iff]
  intro ha
  have := List.all_eq_true.1 ha k (List.mem_range.2 hk)
  rw [h] at this
  exact Bool.noConfusion this

set_option maxRecDepth 100000 in
set_option maxHeartbeats 1600000 in
theorem numsOk_any (a : Option Addr) (cap : Nat) (zs : List Int) (w : World) (hl : zs.length ≤ 1048576) (h : Nums w a zs) :
    Calls Tryd.prog 44 #[.slice a zs.length cap] w fun e w' => e = .returned (.bool (numsB zs)) ∧ w = w' := by
  obtain ⟨n, hn⟩ : ∃ n, n = zs.length := ⟨_, rfl⟩
  have HN : Hid (n = zs.length) := hn
  have HA : Hid (Nums w a zs) := h
  have HB : Hid (numsB zs = (decide (n ≤ 4) && (List.range n).all (okAt zs))) := by rw [hn]; exact numsB_okAt zs
  rw [← hn] at hl ⊢
  clear hn h
  by_cases h4 : n ≤ 4
  · go_enter Tryd.func44, Tryd.ntmps44
    go_wp2_with fail
    go_loop [10] (fun i => ∃ k : Nat, i = .int .i64 k ∧ k ≤ n ∧ Hid ((List.range k).all (okAt zs) = true)) (fun i => n - (intOf i).toNat)
    case atStart => exact ⟨0, rfl, by omega, by simp [Hid]⟩
    case round =>
      obtain ⟨k, rfl, hk, hall⟩ := hrel
      by_cases hlt : k < n
      · have bk : (k : Int) < (n : Int) := by omega
        obtain ⟨b, off, rfl, hbl, hc⟩ := HA.out.at (k := k) (by have := HN.out; omega)
        obtain ⟨z, hz⟩ : ∃ z, z = zs.getD k 0 := ⟨_, rfl⟩
        rw [← hz] at hc
        have HZ : Hid (z = zs.getD k 0) := hz
        clear hz
        cases hh : halfB z
        · have HF : Hid ((List.range n).all (okAt zs) = false) := by
            have := okAll_bad (zs := zs) (k := k) (by have := HN.out; omega) (by unfold okAt; rw [← HZ.out, hh]; rfl)
            rw [← HN.out] at this
            exact this
          clear hall
          go_wp2_with (go_at_call 28; refine (iHalf_any _ _).mono ?_; rintro e w' ⟨rfl, rfl⟩)
          go_ret
          exact ⟨by rw [HB.out, HF.out]; simp, rfl⟩
        · by_cases hk0 : k = 0
          · subst hk0
            rw [Nat.add_zero] at hc
            have HT : Hid ((List.range 1).all (okAt zs) = true) := okAll_more hall.out (by unfold okAt; rw [← HZ.out, hh]; rfl)
            clear hall
            go_wp2_with (go_at_call 28; refine (iHalf_any _ _).mono ?_; rintro e w' ⟨rfl, rfl⟩)
            go_round
            case rel => exact ⟨1, by go_num, by omega, HT⟩
            case measure => simp [intOf]; omega
          · obtain ⟨j, rfl⟩ : ∃ j, k = j + 1 := ⟨k - 1, by omega⟩
            obtain ⟨b', off', e', _, hc'⟩ := HA.out.at (k := j) (by have := HN.out; omega)
            obtain ⟨rfl, rfl⟩ : b = b' ∧ off = off' := by injection e' with e'; injection e' with e1 e2; exact ⟨e1, e2⟩
            clear e'
            obtain ⟨y, hy⟩ : ∃ y, y = zs.getD j 0 := ⟨_, rfl⟩
            rw [← hy] at hc'
            have HY : Hid (y = zs.getD j 0) := hy
            clear hy hk0
            have hj1 : (j : Int) + 1 - 1 = j := by omega
            have hj2 : (0 : Int) < (j : Int) + 1 := by omega
            have hj3 : (j : Int) < n := by omega
            by_cases hyz : z ≤ y
            · have HF : Hid ((List.range n).all (okAt zs) = false) := by
                have := okAll_bad (zs := zs) (k := j + 1) (by have := HN.out; omega) (by
                  unfold okAt
                  rw [show j + 1 - 1 = j from rfl, ← HZ.out, ← HY.out, decide_eq_false (show ¬ y < z by omega)]
                  simp)
                rw [← HN.out] at this
                exact this
              clear hall
              go_wp2_with (go_at_call 28; refine (iHalf_any _ _).mono ?_; rintro e w' ⟨rfl, rfl⟩)
              go_ret
              exact ⟨by rw [HB.out, HF.out]; simp, rfl⟩
            · have HT : Hid ((List.range (j + 1 + 1)).all (okAt zs) = true) := okAll_more hall.out (by
                unfold okAt
                rw [show j + 1 - 1 = j from rfl, ← HZ.out, ← HY.out, hh, decide_eq_true (show y < z by omega)]
                simp)
              clear hall
              go_wp2_with (go_at_call 28; refine (iHalf_any _ _).mono ?_; rintro e w' ⟨rfl, rfl⟩)
              go_round
              case rel => exact ⟨j + 1 + 1, by go_num, by omega, HT⟩
              case measure => simp [intOf]; omega
      · have hkn : k = n := by omega
        have HT : Hid ((List.range n).all (okAt zs) = true) := by rw [← hkn]; exact hall
        have bk : ¬ ((k : Int) < (n : Int)) := by omega
        have HD : Hid (decide (n ≤ 4) = true) := decide_eq_true h4
        clear hall hkn
        go_wp2
        go_ret
        exact ⟨by rw [HB.out, HT.out, HD.out]; rfl, rfl⟩
  · have HD : Hid (decide (n ≤ 4) = false) := decide_eq_false h4
    have h4' : (4 : Int) < (n : Int) := by omega
    go_enter Tryd.func44, Tryd.ntmps44
    go_wp2
    go_ret
    exact ⟨by rw [HB.out, HD.out]; rfl, rfl⟩

theorem outcomeOk_any (a d : Int) (w : World) : Calls Tryd.prog 29 #[.int .i64 a, .int .i64 d] w fun e w' => e = .returned (.bool (outB a d)) ∧ w = w' := by
  have HB : Hid (outB a d = (inB a 0 5 && inB d 0 65535)) := rfl
  cases h0 : inB a 0 5
  · go_enter Tryd.func29, Tryd.ntmps29
    go_wp2_with (go_at_call 43; refine (known_any _ _).mono ?_; rintro e w' ⟨rfl, rfl⟩)
    go_ret
    exact ⟨by rw [HB.out, h0]; rfl, rfl⟩
  · by_cases h1 : 0 ≤ d
    · by_cases h2 : d ≤ 65535
      · have HI : Hid (inB d 0 65535 = true) := inB_true.2 ⟨h1, h2⟩
        have h2' : d < 65536 := by omega
        go_enter Tryd.func29, Tryd.ntmps29
        go_wp2_with (go_at_call 43; refine (known_any _ _).mono ?_; rintro e w' ⟨rfl, rfl⟩)
        go_ret
        exact ⟨by rw [HB.out, h0, HI.out]; simp, rfl⟩
      · have HI : Hid (inB d 0 65535 = false) := inB_false.2 (by omega)
        have h2' : ¬ d < 65536 := by omega
        go_enter Tryd.func29, Tryd.ntmps29
        go_wp2_with (go_at_call 43; refine (known_any _ _).mono ?_; rintro e w' ⟨rfl, rfl⟩)
        go_ret
        exact ⟨by rw [HB.out, h0, HI.out]; simp; omega, rfl⟩
    · have HI : Hid (inB d 0 65535 = false) := inB_false.2 (by omega)
      have h2' : d < 0 := by omega
      go_enter Tryd.func29, Tryd.ntmps29
      go_wp2_with (go_at_call 43; refine (known_any _ _).mono ?_; rintro e w' ⟨rfl, rfl⟩)
      go_ret
      exact ⟨by rw [HB.out, h0, HI.out]; simp, rfl⟩

theorem l09Act_any (a d : Int) (w : World) : Calls Tryd.prog 23 #[.int .i64 a, .int .i64 d] w fun e w' => e = .returned (.bool (outB a d)) ∧ w = w' := by
  have HB : Hid (outB a d = (inB a 0 5 && inB d 0 65535)) := rfl
  cases h0 : inB a 0 5
  · go_enter Tryd.func23, Tryd.ntmps23
    go_wp2_with (go_at_call 39; refine (in_any _ _ _ _).mono ?_; rintro e w' ⟨rfl, rfl⟩)
    go_ret
    exact ⟨by rw [HB.out, h0]; rfl, rfl⟩
  · go_enter Tryd.func23, Tryd.ntmps23
    go_wp2_with (go_at_call 39; refine (in_any _ _ _ _).mono ?_; rintro e w' ⟨rfl, rfl⟩)
    go_ret
    exact ⟨by rw [HB.out, h0]; simp, rfl⟩

set_option maxRecDepth 100000 in
set_option maxHeartbeats 1600000 in
theorem condsOk_any (a : Option Addr) (cap : Nat) (cs : List CN) (w : World) (hl : cs.length ≤ 1048576) (h : Conds w a cs) :
    Calls Tryd.prog 45 #[.slice a cs.length cap] w fun e w' => e = .returned (.bool (condsB cs)) ∧ Ext w w' := by
  obtain ⟨n, hn⟩ : ∃ n, n = cs.length := ⟨_, rfl⟩
  have HN : Hid (n = cs.length) := hn
  have HA : Hid (∀ W, Ext w W → Conds W a cs) := fun W hE => h.step hE
  have HB : Hid (condsB cs = (decide (n ≤ 3) && cs.all condB)) := by rw [hn]; rfl
  rw [← hn] at hl ⊢
  clear hn h
  by_cases h4 : n ≤ 3
  · have HD : Hid (decide (n ≤ 3) = true) := decide_eq_true h4
    go_enter Tryd.func45, Tryd.ntmps45
    go_wp2_with fail
    go_loopw [10] (fun i wr => ∃ k : Nat, i = .int .i64 k ∧ k ≤ n ∧ Hid (Ext w wr) ∧ Hid ((cs.take k).all condB = true)) (fun i _ => n - (intOf i).toNat)
    case atStart => exact ⟨0, rfl, by omega, Ext.refl _, by simp [Hid]⟩
    case round =>
      obtain ⟨k, rfl, hk, hE, hall⟩ := hrel
      by_cases hlt : k < n
      · have bk : (k : Int) < (n : Int) := by omega
        obtain ⟨c, hc⟩ : ∃ c, c = cs.getD k c0 := ⟨_, rfl⟩
        obtain ⟨b, off, rfl, hbl, hs⟩ := (HA.out wr hE.out).at (k := k) (by have := HN.out; omega) hc
        obtain ⟨ag, mh, ml, cm, vh, vl⟩ := c
        obtain ⟨q0, q1, q2, q3, q4, q5⟩ := hs.six
        have HC : Hid (⟨ag, mh, ml, cm, vh, vl⟩ = cs.getD k c0) := hc
        clear hc hs
        simp only at q0 q1 q2 q3 q4 q5
        go_wp2_with fail
        refine (iCondOk_any ag mh ml cm vh vl _).mono ?_
        rintro e w2 ⟨rfl, x2⟩
        have X2 : Hid (Ext w w2) := (hE.out.alloc _).trans x2
        clear x2 q0 q1 q2 q3 q4 q5
        cases hcb : condB ⟨ag, mh, ml, cm, vh, vl⟩
        · have HF : Hid (cs.all condB = false) := all_bad (k := k) (d := c0) (by have := HN.out; omega) (by rw [← HC.out]; exact hcb)
          clear hall
          go_wp2
          go_ret
          exact ⟨by rw [HB.out, HF.out]; simp, X2.out⟩
        · have HT : Hid ((cs.take (k + 1)).all condB = true) := by unfold Hid; rw [all_get cs condB c0 k (by have := HN.out; omega), hall.out, ← HC.out, hcb]; rfl
          clear hall
          go_wp2
          go_roundw
          case rel => exact ⟨k + 1, by go_num, by omega, X2, HT⟩
          case measure => simp [intOf]; omega
      · have hkn : k = n := by omega
        have HT : Hid (cs.all condB = true) := all_end (k := k) (by have := HN.out; omega) hall.out
        have bk : ¬ ((k : Int) < (n : Int)) := by omega
        clear hall hkn
        go_wp2
        go_ret
        exact ⟨by rw [HB.out, HT.out, HD.out]; rfl, hE.out⟩
  · have HD : Hid (decide (n ≤ 3) = false) := decide_eq_false h4
    have h4' : (3 : Int) < (n : Int) := by omega
    go_enter Tryd.func45, Tryd.ntmps45
    go_wp2
    go_ret
    exact ⟨by rw [HB.out, HD.out]; rfl, Ext.refl _⟩

/-- The place of the first v, or -1. -/
def idxV : List Int → Int → Int → Int
  | [], _, _ => -1
  | z :: zs, v, k => if v = z then k else idxV zs v (k + 1)

theorem idxV_has : ∀ (zs : List Int) (v k : Int), 0 ≤ k → decide (0 ≤ idxV zs v k) = zs.contains v
  | [], v, k, h => by simp [idxV]
  | z :: zs, v, k, h => by
    unfold idxV
    by_cases hz : v = z
    · subst hz; simp [h]
    · rw [if_neg hz, idxV_has zs v (k + 1) (by omega)]
      simp [hz]

theorem drop_cons {zs : List Int} {k : Nat} (h : k < zs.length) : zs.drop k = zs.getD k 0 :: zs.drop (k + 1) := by
  rw [List.drop_eq_getElem_cons h]
  simp [List.getD_eq_getElem?_getD, h]

end Go.Proofs.YtojaohdmfahpmaaDoor
