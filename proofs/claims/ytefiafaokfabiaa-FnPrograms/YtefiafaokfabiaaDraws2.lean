/- What the draws of texts and numbers answer: l01Text a text of n bytes, l01Long one of n bytes, l01PickInt one of a list, l01Number an int. -/
import Derived.Test.YtefiafaokfabiaaInfoB
import Derived.Test.YtefiafaokfabiaaDraws
namespace Go.Proofs.Ytefiafaokfabiaa
open Go.RowKit
set_option linter.unusedVariables false

theorem grown_own {a b c : World} {r row : Option Nat} (h : a.grownBy b r) (k : b.grownBy c row) (hr : ∀ x, row = some x → a.heap.size ≤ x) : a.grownBy c r :=
  ⟨k.os.trans h.os, k.tape.trans h.tape, k.output.trans h.output, Nat.le_trans h.size k.size, fun i hi hne => (k.block i (Nat.lt_of_lt_of_le hi h.size) (fun e => by have := hr i e.symm; omega)).trans (h.block i hi hne)⟩

theorem Cur.lt {w : World} {p : Nat} {a : Option Addr} {len cap : Nat} (h : Cur w p a len cap) : p < w.heap.size := by
  obtain ⟨_, _, _, hc, _⟩ := h
  exact (Array.getElem?_eq_some_iff.1 hc).1

/-- A cursor is kept where nothing below B turns. -/
theorem Cur.grown {w w' : World} {p B : Nat} {a : Option Addr} {len cap : Nat} {row : Option Nat} (h : Cur w p a len cap) (hg : w.grownBy w' row) (hp : p < B) (hb : ∀ b off, a = some ⟨b, off, none⟩ → 0 < len → b < B) (hr : ∀ x, row = some x → B ≤ x) : Cur w' p a len cap :=
  h.kept hg (fun e => by have := hr p e; omega) (fun b off e hl e2 => by have := hr b e2; have := hb b off e hl; omega)

theorem Cur.code {w : World} {p : Nat} {a : Option Addr} {len cap : Nat} (h : Cur w p a len cap) : ∀ b off, a = some ⟨b, off, none⟩ → 0 < len → b < w.heap.size := by
  intro b off e hl
  obtain ⟨_, _, _, _, _, hB⟩ := h
  obtain ⟨b', off', e', _, hx⟩ := hB hl
  rw [e] at e'
  have := Option.some.inj e'
  obtain ⟨x, _, h2⟩ := hx 0 hl
  have hb := World.block_lt_of_cell? w _ h2
  simp at this
  rw [this.1]
  exact hb

set_option maxRecDepth 100000 in
set_option maxHeartbeats 1000000 in
theorem text_any (n : Nat) (p : Nat) (a : Option Addr) (len cap : Nat) (w : World) (hC : Cur w p a len cap) (hn : n ≤ 5000) :
    Calls Try.prog 50 #[.pointer (some ⟨p, 0, none⟩), .int .i64 (n : Int)] w fun e w' => ∃ l : List UInt8, l.length = n ∧ e = .returned (.string ⟨l.toArray⟩) ∧ Cur w' p a len cap ∧ w.grownBy w' (some p) := by
  obtain ⟨i0, hi, hz0, hz1, hz2⟩ := info_parts Try.infoB
  have hpl := hC.lt
  have HCO : Hid (∀ b off, a = some ⟨b, off, none⟩ → 0 < len → b < w.heap.size) := hC.code
  have HC : Hid (Cur w p a len cap) := hC
  clear hC
  go_enter Try.func50, Try.ntmps50
  go_wp2
  go_loopw [5, 6] (fun v i wr => ∃ (k : Nat) (l : List UInt8), i = .int .i64 k ∧ k ≤ n ∧ Hid (l.length = k) ∧ l.length ≤ n ∧ wr.ownsRow w.heap.size 5 1 v l.length (bytesV l) ∧ Cur wr p a len cap ∧ w.grownBy wr (some p)) (fun _ i _ => n - (intOf i).toNat)
  case atStart =>
    refine ⟨0, [], rfl, by omega, rfl, by simp, World.ownsRow_lit (e := 5) (size := 1) w #[] 0 (Nat.le_refl _) (by decide) rfl, HC.out.grown (World.grownBy_alloc w _ none) hpl HCO.out (by simp), ?_⟩
    exact World.grownBy_alloc w _ _
  case round =>
    obtain ⟨k, l, rfl, hk, hlk, hln, hown, hcur, hg⟩ := hrel
    have hgs := hg.size
    by_cases hlt : k < n
    · go_wp2_with fail
      refine (byte_any p a len cap _ hcur).mono ?_
      rintro e w1 ⟨x, hx, rfl, hc1, hg1⟩
      have hown1 := hown.kept hg1 (by
        right
        intro e2
        have := hown.lt p e2
        omega)
      have hgs1 := hg1.size
      have hg2 := grown_trans hg hg1
      clear hg1 hown hcur hg
      go_wp2_with (at_builtin; refine wpList_append_own _ rfl _ _ 22 rfl w.heap.size 5 i0 (.int .u8 0) 1 1 Try.underlying22 hi hz0 hz1 hz2 rfl (by decide) _ _ _ rfl (hown1.alloc _) ⟨w1.heap.size, 0, none⟩ 1 1 [.int .u8 (x : Int)] rfl rfl ?c1 ?c2 ?c3 ?c4 ?c5 ?_)
      case c1 => exact cell_one_new _ _ _
      case c2 => intro u hu; simp at hu; subst hu; rfl
      case c3 => unfold maxLen; omega
      case c4 => omega
      case c5 => simp; omega
      · intro v' w2 hown' hgrow _
        rw [bytesV_push l (UInt8.ofNat x) _ (by rw [← byte_of _ (by omega)])] at hown'
        have hlo := fun y hy => (hown1.lt y hy).1
        have hc2 : Cur w2 p a len cap := (hc1.grown (World.grownBy_alloc w1 _ none) hpl HCO.out (by simp)).grown hgrow hpl HCO.out hlo
        have hg3 : w.grownBy w2 (some p) := grown_own (grown_trans hg2 (World.grownBy_alloc w1 _ _)) hgrow hlo
        clear hgrow hown1 hc1 hg2 hlo
        go_wp2
        go_roundw
        case rel => first | exact ⟨k + 1, l ++ [UInt8.ofNat x], by go_num, by omega, by have := hlk.out; unfold Hid; simp; omega, by have := hlk.out; simp; omega, by simpa using hown', hc2, hg3⟩ | ((repeat apply Exists.intro); exact ⟨⟨k + 1, l ++ [UInt8.ofNat x], by go_num, by omega, by have := hlk.out; unfold Hid; simp; omega, by have := hlk.out; simp; omega, by simpa using hown', hc2, hg3⟩, rfl⟩)
        case measure => simp [intOf]; omega
    · have hcv := own_convert (P := Try.prog) hown Try.underlying22 Try.underlying5 Try.underlying9
      clear hown
      go_wp2
      go_ret
      exact ⟨l, by have := hlk.out; omega, rfl, hcur, hg⟩

set_option maxRecDepth 100000 in
set_option maxHeartbeats 1000000 in
theorem pick_any (n : Nat) (cs : Array Value) (q : Nat) (p : Nat) (a : Option Addr) (len cap : Nat) (w : World) (hC : Cur w p a len cap) (hq : w.heap[q]? = some (.cells cs 3 (0, 0))) (hqp : q ≠ p) (h0 : 0 < n) (hn : n ≤ 256) (hcs : cs.size = n)
    (hall : ∀ j, j < n → ∃ z : Int, -9223372036854775808 ≤ z ∧ z ≤ 9223372036854775807 ∧ cs[j]? = some (.int .i64 z)) :
    Calls Try.prog 54 #[.pointer (some ⟨p, 0, none⟩), .slice (some ⟨q, 0, none⟩) n n] w fun e w' => ∃ z : Int, -9223372036854775808 ≤ z ∧ z ≤ 9223372036854775807 ∧ e = .returned (.int .i64 z) ∧ Cur w' p a len cap ∧ w.grownBy w' (some p) := by
  have HC : Hid (Cur w p a len cap) := hC
  have HA : Hid (∀ j, j < n → ∃ z : Int, -9223372036854775808 ≤ z ∧ z ≤ 9223372036854775807 ∧ cs[j]? = some (.int .i64 z)) := hall
  have HQ : Hid (w.heap[q]? = some (.cells cs 3 (0, 0))) := hq
  clear hC hall hq hcs
  go_enter Try.func54, Try.ntmps54
  go_wp2_with fail
  refine (below_any n p a len cap _ HC.out (by omega)).mono ?_
  rintro e w1 ⟨x, hx, _, _, rfl, hc1, hg1⟩
  have hxn := hx h0
  obtain ⟨z, z1, z2, hz⟩ := HA.out x hxn
  have hq1 : w1.heap[q]? = some (.cells cs 3 (0, 0)) := (hg1.block q (Array.getElem?_eq_some_iff.1 HQ.out).1 (by simpa using hqp)).trans HQ.out
  have hcell : w1.cell? ⟨q, x, none⟩ = some (.int .i64 z) := cell_in hq1 hz
  have hxi : (x : Int) < (n : Int) := by omega
  clear hq1 hx hz
  go_wp2
  go_ret
  exact ⟨z, z1, z2, rfl, hc1, hg1⟩

/-- What grows from a new cursor's block on turns nothing that was there. -/
theorem below_new {w w1 w2 : World} (h : Below w.heap.size w w1) (hg : w1.grownBy w2 (some w.heap.size)) : Below w.heap.size w w2 :=
  h.grown hg h.size (fun k hk => by have := Option.some.inj hk; omega)

end Go.Proofs.Ytefiafaokfabiaa
