/- What the draws of lists of signs, and of texts of them, answer; and that signs that are the same are told to be. -/
import Derived.Test.YtfhkafbcopolcaaDoorDrawSign
import Derived.Test.YtfhkafbcopolcaaDoorSignsI
import Derived.Test.YtfhkafbcopolcaaDoorSignSl
import Derived.BigQuiet
import Derived.Deep.QuietTactic
namespace Go.Proofs.YtfhkafbcopolcaaDoor
open Go.RowKit
set_option linter.unusedVariables false

theorem own_grown8 {w w' : World} {base e size p : Nat} {v : Value} {n : Nat} {xs : List Value} (h : w.ownsRow base e size v n xs) (hg : w.grownBy w' (some p)) (hp : p < base) : w'.ownsRow base e size v n xs :=
  h.kept hg (by
    right
    intro e2
    have := (h.lt p e2).1
    omega)

set_option maxRecDepth 100000 in
set_option maxHeartbeats 2000000 in
theorem signs_any (p : Nat) (a : Option Addr) (len cap : Nat) (w : World) (hC : Cur w p a len cap) :
    Calls Tryd.prog 21 #[.pointer (some ⟨p, 0, none⟩)] w fun e w' => ∃ v ps, e = .returned v ∧ (∀ s ∈ ps, SgR s) ∧ ps.length ≤ 8 ∧ Own3 w' w.heap.size v ps ∧ Cur w' p a len cap ∧ w.grownBy w' (some p) := by
  obtain ⟨i0, hi, hz0, hz1, hz2⟩ := info_parts Tryd.infoG
  have hp := hC.lt
  have HCO : Hid (∀ b off, a = some ⟨b, off, none⟩ → 0 < len → b < w.heap.size) := hC.code
  have HC : Hid (Cur w p a len cap) := hC
  clear hC
  go_enter Tryd.func21, Tryd.ntmps21
  go_wp2
  go_loopw [3, 4] (fun v i wr => ∃ (k : Nat) (ps : List Sg), i = .int .i64 k ∧ k ≤ 8 ∧ Hid (ps.length = k ∧ (∀ s ∈ ps, SgR s) ∧ Own3 wr w.heap.size v ps ∧ Cur wr p a len cap ∧ w.grownBy wr (some p))) (fun _ i _ => 9 - (intOf i).toNat)
  case atStart => exact ⟨0, [], rfl, by omega, rfl, by simp, Own3.lit w _ (Nat.le_refl _), HC.out.alloc _, World.grownBy_alloc w _ _⟩
  case round =>
    obtain ⟨k, ps, rfl, hk, HR⟩ := hrel
    obtain ⟨ao, cc, hv, _⟩ := own_slice8 HR.out.2.2.1
    rw [HR.out.1] at hv
    subst hv
    go_wp2_with fail
    refine (below_any 9 p a len cap _ HR.out.2.2.2.1 (by omega)).mono ?_
    rintro e w2 ⟨x, hx, _, _, rfl, hc2, hg2⟩
    have hx9 := hx (by omega)
    have HO2 : Hid (w2.ownsRow w.heap.size 44 3 (.slice ao k cc) k (flatG ps)) := by
      have h := own_grown8 HR.out.2.2.1 hg2 hp
      rw [HR.out.1] at h
      exact h
    have HC2 : Hid (Cur w2 p a len cap) := hc2
    have HG2 : Hid (w.grownBy w2 (some p)) := grown_trans HR.out.2.2.2.2 hg2
    clear hc2 hg2 hx
    by_cases hlt : k < x
    · have bk : (k : Int) < (x : Int) := by omega
      go_wp2_with fail
      refine (drawnSign_any p a len cap _ HC2.out).mono ?_
      rintro e w3 ⟨⟨pk, pt, pn⟩, hs, rfl, hc3, hg3⟩
      unfold sgV
      have HS : Hid (SgR (pk, pt, pn)) := hs
      have HO3 : Hid (w3.ownsRow w.heap.size 44 3 (.slice ao k cc) k (flatG ps)) := own_grown8 HO2.out hg3 hp
      have HC3 : Hid (Cur w3 p a len cap) := hc3
      have HG3 : Hid (w.grownBy w3 (some p)) := grown_trans HG2.out hg3
      have hz3 := HG3.out.size
      clear hc3 hg3 hs HO2 HC2 HG2
      obtain ⟨tx, htx⟩ : ∃ tx, tx = txt pt := ⟨_, rfl⟩
      have HTX : Hid (tx = txt pt) := htx
      simp only
      rw [← htx]
      clear htx
      go_wp2_with (at_builtin; refine wpList_append_own _ rfl _ _ 24 rfl w.heap.size 44 i0 (.agg #[.int .i64 0, .string ⟨#[]⟩, .int .i64 0]) 3 32 Tryd.underlying24 hi hz0 hz1 hz2 rfl (by decide) _ k _ rfl (HO3.out.alloc _) ⟨w3.heap.size, 0, none⟩ 1 1 [.int .i64 pk, .string tx, .int .i64 pn] rfl rfl ?c1 ?c2 ?c3 ?c4 ?c5 ?_)
      case c1 =>
        intro j u hu
        have := (CellsAt.new' w3 [.int .i64 pk, .string tx, .int .i64 pn] 44 w3.heap.size rfl).2 j u hu
        rw [Addr.add_lit, Nat.zero_add]
        exact this
      case c2 => intro u hu; simp at hu; rcases hu with rfl | rfl | rfl <;> rfl
      case c3 => unfold maxLen; omega
      case c4 => omega
      case c5 => simp; omega
      · intro v' w4 hown4 hgrow _
        have e4 : flatG ps ++ [.int .i64 pk, .string tx, .int .i64 pn] = flatG (ps ++ [(pk, pt, pn)]) := by rw [HTX.out]; exact flatG_push ps (pk, pt, pn)
        rw [e4] at hown4
        have hrow : ∀ x, (Value.slice ao k cc).ownBlock = some x → w.heap.size ≤ x := fun x hx => (HO3.out.lt x hx).1
        have hl : (ps ++ [(pk, pt, pn)]).length = k + 1 := by simp [HR.out.1]
        have HR4 : Hid ((ps ++ [(pk, pt, pn)]).length = k + 1 ∧ (∀ s ∈ ps ++ [(pk, pt, pn)], SgR s) ∧ Own3 w4 w.heap.size v' (ps ++ [(pk, pt, pn)]) ∧ Cur w4 p a len cap ∧ w.grownBy w4 (some p)) := by
          refine ⟨hl, ?_, ?_, (HC3.out.alloc _).grown hgrow (B := w.heap.size) hp HCO.out hrow, grown_own (grown_alloc HG3.out _) hgrow hrow⟩
          · intro s hs
            rcases List.mem_append.1 hs with h | h
            · exact HR.out.2.1 s h
            · simp at h; rw [h]; exact HS.out
          · unfold Own3
            rw [hl]
            exact hown4
        clear hgrow hown4 e4 hrow HO3 hl HG3 HC3
        go_wp2
        go_roundw
        case rel => exact ⟨k + 1, _, by go_num, by omega, HR4⟩
        case measure => simp [intOf]; omega
    · have bk : ¬ ((k : Int) < (x : Int)) := by omega
      have HO : Hid (Own3 w2 w.heap.size (.slice ao k cc) ps) := by unfold Hid Own3; rw [HR.out.1]; exact HO2.out
      have HL : Hid (ps.length ≤ 8) := by have := HR.out.1; unfold Hid; omega
      clear HO2
      go_wp2
      go_ret
      exact ⟨_, ps, rfl, HR.out.2.1, HL.out, HO.out, HC2.out, HG2.out⟩

theorem own_base8 {w : World} {B B' e size : Nat} {v : Value} {n : Nat} {xs : List Value} (h : w.ownsRow B e size v n xs) (hB : B' ≤ B) : w.ownsRow B' e size v n xs := own_lower h hB

theorem drawSigns_any (a : Option Addr) (len cap : Nat) (w : World) (hC : Came w a len) :
    Calls Tryd.prog 6 #[.slice a len cap] w fun e w' => ∃ v ps, e = .returned v ∧ (∀ s ∈ ps, SgR s) ∧ ps.length ≤ 8 ∧ Own3 w' w.heap.size v ps ∧ Ext w w' := by
  go_enter Tryd.func6, Tryd.ntmps6
  go_wp2_with fail
  refine (new_any a len cap _ hC).mono ?_
  rintro e w1 ⟨rfl, hc1, hb1⟩
  go_wp2_with fail
  refine (signs_any _ a len cap _ hc1).mono ?_
  rintro e w2 ⟨v, ps, rfl, hs, hl, hown, hc2, hg2⟩
  have HB : Hid (Ext w w2) := below_new hb1 hg2
  have HO : Hid (Own3 w2 w.heap.size v ps) := own_base8 hown hb1.size
  have HS : Hid ((∀ s ∈ ps, SgR s) ∧ ps.length ≤ 8) := ⟨hs, hl⟩
  clear hg2 hc2 hown hs hl hb1 hc1
  go_wp2
  go_ret
  exact ⟨v, ps, rfl, HS.out.1, HS.out.2, HO.out, HB.out⟩

set_option maxRecDepth 100000 in
theorem drawNumber_any (a : Option Addr) (len cap : Nat) (w : World) (hC : Came w a len) :
    Calls Tryd.prog 13 #[.slice a len cap] w fun e w' => ∃ t : List UInt8, t.length ≤ 4 ∧ e = .returned (.string (txt t)) ∧ Ext w w' := by
  go_enter Tryd.func13, Tryd.ntmps13
  go_wp2_with fail
  refine (new_any a len cap _ hC).mono ?_
  rintro e w1 ⟨rfl, hc1, hb1⟩
  have HB1 : Hid (Ext w w1) := hb1
  have HC1 : Hid (Cur w1 w.heap.size a len cap) := hc1
  have hp := hc1.lt
  clear hC hc1 hb1
  go_wp2_with fail
  refine (pickS_list [[114, 101, 97, 100], [101, 120, 105, 116], [102, 111, 114, 107], [110, 111, 110, 101], [], [82, 101, 97, 100]] _ w.heap.size a len cap _ (HC1.out.alloc _) (Blk.new _ _ _) (by omega) (by simp) (by simp)).mono ?_
  rintro e w3 ⟨t, ht, rfl, hc3, hg3⟩
  have HB : Hid (Ext w w3) := below_new (HB1.out.alloc _) hg3
  have HT : Hid (t.length ≤ 4) := by
    have key : ∀ t ∈ ([[114, 101, 97, 100], [101, 120, 105, 116], [102, 111, 114, 107], [110, 111, 110, 101], [], [82, 101, 97, 100]] : List (List UInt8)), t.length ≤ 4 := by decide
    exact key t ht
  obtain ⟨T, hT⟩ : ∃ T, T = txt t := ⟨_, rfl⟩
  rw [← hT]
  have HTT : Hid (T = txt t) := hT
  clear hc3 hg3 ht hT
  go_wp2
  go_ret
  exact ⟨t, HT.out, (by rw [← HTT.out]; rfl), HB.out⟩

set_option maxRecDepth 100000 in
set_option maxHeartbeats 1000000 in
theorem sameSigns_same (a1 a2 : Option Addr) (c1 c2 : Nat) (ps : List Sg) (w : World) (hl : ps.length ≤ 1048576) (h1 : Signs w a1 ps) (h2 : Signs w a2 ps) :
    Calls Tryd.prog 14 #[.slice a1 ps.length c1, .slice a2 ps.length c2] w fun e w' => e = .returned (.bool true) ∧ Ext w w' := by
  obtain ⟨n, hn⟩ : ∃ n, n = ps.length := ⟨_, rfl⟩
  have HA : Hid (Signs w a1 ps ∧ Signs w a2 ps ∧ n = ps.length) := ⟨h1, h2, hn⟩
  rw [← hn]
  have hl' : n ≤ 1048576 := by omega
  clear h1 h2 hn hl
  go_enter Tryd.func14, Tryd.ntmps14
  go_wp2_with fail
  go_loopw [5] (fun i wr => ∃ k : Nat, i = .int .i64 k ∧ k ≤ n ∧ Ext w wr) (fun i _ => n - (intOf i).toNat)
  case atStart => exact ⟨0, rfl, by omega, Ext.refl _⟩
  case round =>
    obtain ⟨k, rfl, hk, hb⟩ := hrel
    by_cases hlt : k < n
    · have bk : (k : Int) < (n : Int) := by omega
      obtain ⟨⟨kd, tl, nm⟩, hp⟩ : ∃ p, p = ps.getD k zeroG := ⟨_, rfl⟩
      obtain ⟨b1, o1, rfl, p1⟩ := (HA.out.1.ext hb).tri (k := k) (by have := HA.out.2.2; omega)
      obtain ⟨b2, o2, rfl, p2⟩ := (HA.out.2.1.ext hb).tri (k := k) (by have := HA.out.2.2; omega)
      rw [← hp] at p1 p2
      simp only at p1 p2
      obtain ⟨T, hT⟩ : ∃ T, T = txt tl := ⟨_, rfl⟩
      rw [← hT] at p1 p2
      obtain ⟨q1, q2, q3⟩ := p1
      obtain ⟨q4, q5, q6⟩ := p2
      clear hp hT
      have HB : Hid (Ext w wr) := hb
      clear hb
      go_wp2
      go_quiet (fail)
      go_wp2
      go_roundw
      case rel => exact ⟨k + 1, by go_num, by omega, HB.out.trans ⟨rfl, rfl, rfl, Nat.le_refl _, fun _ _ => rfl⟩⟩
      case measure => simp [intOf]; omega
    · have bk : ¬ ((k : Int) < (n : Int)) := by omega
      go_wp2
      go_ret
      exact ⟨rfl, hb⟩

end Go.Proofs.YtfhkafbcopolcaaDoor
