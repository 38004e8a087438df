/- What the laws' helpers over slices of rules answer: szRuleS. -/
import Derived.Test.YtojaohdmfahpmaaDoorToRule
import Derived.Test.YtojaohdmfahpmaaDoorPolI
namespace Go.Proofs.YtojaohdmfahpmaaDoor
open Go.RowKit
set_option linter.unusedVariables false

def FinR (rs : List RN) : Prop := rs.length ≤ 9223372036854775807 ∧ ∀ k, k < rs.length → (rs.getD k r0).nums.length ≤ 9223372036854775807 ∧ (rs.getD k r0).conds.length ≤ 9223372036854775807

set_option maxRecDepth 100000 in
set_option maxHeartbeats 2000000 in
theorem szRuleS_any (a : Option Addr) (cap n l : Nat) (rs : List RN) (w : World) (hn : n = rs.length) (hm : l ≤ 1048576) (hf : FinR rs) (h : Rules w a rs) :
    Calls Tryd.prog 9 #[.slice a n cap, .int .i64 (l : Int)] w fun e w' => ((e = .returned (.int .i64 (-1))) ∨ ∃ m : Nat, e = .returned (.int .i64 (m : Int)) ∧ m ≤ l ∧ SmallR rs) ∧ Ext w w' := by
  have HN : Hid (n = rs.length ∧ FinR rs) := ⟨hn, hf⟩
  have HA : Hid (∀ W, Ext w W → Rules W a rs) := fun W hE => h.step hE
  have hn63 : n ≤ 9223372036854775807 := by have := hf.1; omega
  clear h hn hf
  by_cases h1 : n ≤ l
  · obtain ⟨k0, hk0⟩ : ∃ k0, k0 = l - n := ⟨_, rfl⟩
    have HK : Hid (((l : Int) - (n : Int)) = (k0 : Int) ∧ k0 ≤ l) := by unfold Hid; omega
    have h1' : ¬ ((l : Int) - (n : Int)) < 0 := by omega
    clear hk0
    go_enter Tryd.func9, Tryd.ntmps9
    go_wp2_with fail
    go_loopw [1, 5] (fun lv i wr => ∃ k m : Nat, lv = .int .i64 m ∧ i = .int .i64 k ∧ k ≤ n ∧ m ≤ l ∧ Hid (Ext w wr) ∧ Hid (∀ j, j < k → Small (rs.getD j r0))) (fun _ i _ => n - (intOf i).toNat)
    case atStart => exact ⟨0, k0, by rw [HK.out.1], rfl, by omega, HK.out.2, Ext.refl _, fun j hj => by omega⟩
    case round =>
      obtain ⟨k, m, rfl, rfl, hk, hml, hE, hall⟩ := hrel
      by_cases hlt : k < n
      · have bk : (k : Int) < (n : Int) := by omega
        obtain ⟨b, off, lc, rfl, ⟨hbl, hseg⟩, hL⟩ := (HA.out wr hE.out).at (k := k) (by have := HN.out.1; omega)
        obtain ⟨a1, n1, c1, a2, n2, c2, rfl, e1, e2, _⟩ := hL
        obtain ⟨p0, p1, p2, p3⟩ := hseg.four
        have hfk := HN.out.2.2 k (by have := HN.out.1; omega)
        generalize (rs.getD k r0).act = ac at *
        generalize (rs.getD k r0).data = da at *
        have HS : Hid (n1 ≤ 1048576 → n2 ≤ 1048576 → Small (rs.getD k r0)) := fun u1 u2 => ⟨by omega, by omega⟩
        have HT : Hid (Calls Tryd.prog 20 #[.agg #[.slice a1 n1 c1, .slice a2 n2 c2, .int .i64 ac, .int .i64 da], .int .i64 (m : Int)] wr fun e w' => ((e = .returned (.int .i64 (-1))) ∨ ∃ m' : Nat, e = .returned (.int .i64 (m' : Int)) ∧ m' ≤ m ∧ n1 ≤ m ∧ n2 ≤ m) ∧ Ext wr w') :=
          szRule_any ac da a1 a2 n1 n2 c1 c2 m wr (by omega) (by omega) (by omega)
        clear hseg hbl e1 e2 hfk
        go_wp2_with fail
        refine HT.out.mono ?_
        rintro e w2 ⟨hor, x2⟩
        have X2 : Hid (Ext w w2) := hE.out.trans x2
        clear x2 p0 p1 p2 p3 HT
        rcases hor with rfl | ⟨m', rfl, u1, u2, u3⟩
        · clear hall HS
          go_wp2
          go_ret
          exact ⟨.inl rfl, X2.out⟩
        · have HT : Hid (∀ j, j < k + 1 → Small (rs.getD j r0)) := fun j hj => by
            by_cases hjk : j = k
            · subst hjk; exact HS.out (by omega) (by omega)
            · exact hall.out j (by omega)
          have hm' : m' ≤ l := by omega
          clear hall HS u1 u2 u3
          go_wp2
          go_roundw
          case rel => exact ⟨k + 1, m', rfl, by go_num, by omega, hm', X2, HT⟩
          case measure => simp [intOf]; omega
      · have hkn : k = n := by omega
        have HT : Hid (SmallR rs) := ⟨by have := HN.out.1; omega, fun j hj => hall.out j (by have := HN.out.1; omega)⟩
        have bk : ¬ ((k : Int) < (n : Int)) := by omega
        clear hall hkn
        go_wp2
        go_ret
        exact ⟨.inr ⟨m, rfl, hml, HT.out⟩, hE.out⟩
  · have h1' : ((l : Int) - (n : Int)) < 0 := by omega
    clear h1
    go_enter Tryd.func9, Tryd.ntmps9
    go_wp2
    go_ret
    exact ⟨.inl rfl, Ext.refl _⟩

end Go.Proofs.YtojaohdmfahpmaaDoor
