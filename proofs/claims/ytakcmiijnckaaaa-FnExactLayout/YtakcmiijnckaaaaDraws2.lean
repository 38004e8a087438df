/- What the draws of texts and numbers answer: l01Text a text of n bytes, l01Long one of n bytes, l01PickInt one of a list, l01Number an int. -/
import Derived.Test.YtakcmiijnckaaaaInfoB
import Derived.Test.YtakcmiijnckaaaaDraws
namespace Go.Proofs.Ytakcmiijnckaaaa
open Go.RowKit
set_option linter.unusedVariables false

theorem grown_own {a b c : World} {r row : Option Nat} (h : a.grownBy b r) (k : b.grownBy c row) (hr : ∀ x, row = some x → a.heap.size ≤ x) : a.grownBy c r :=
  ⟨k.os.trans h.os, k.tape.trans h.tape, k.output.trans h.output, Nat.le_trans h.size k.size, fun i hi hne => (k.block i (Nat.lt_of_lt_of_le hi h.size) (fun e => by have := hr i e.symm; omega)).trans (h.block i hi hne)⟩

theorem Cur.lt {w : World} {p : Nat} {a : Option Addr} {len cap : Nat} (h : Cur w p a len cap) : p < w.heap.size := by
  obtain ⟨_, _, _, hc, _⟩ := h
  exact (Array.getElem?_eq_some_iff.1 hc).1

/-- A cursor is kept where nothing below B turns. -/
theorem Cur.grown {w w' : World} {p B : Nat} {a : Option Addr} {len cap : Nat} {row : Option Nat} (h : Cur w p a len cap) (hg : w.grownBy w' row) (hp : p < B) (hb : ∀ b off, a = some ⟨b, off, none⟩ → 0 < len → b < B) (hr : ∀ x, row = some x → B ≤ x) : Cur w' p a len cap :=
  h.kept hg (fun e => by have := hr p e; omega) (fun b off e hl e2 => by have := hr b e2; have := hb b off e hl; omega)

theorem Cur.code {w : World} {p : Nat} {a : Option Addr} {len cap : Nat} (h : Cur w p a len cap) : ∀ b off, a = some ⟨b, off, none⟩ → 0 < len → b < w.heap.size := by
  intro b off e hl
  obtain ⟨_, _, _, _, _, hB⟩ := h
  obtain ⟨b', off', e', _, hx⟩ := hB hl
  rw [e] at e'
  have := Option.some.inj e'
  obtain ⟨x, _, h2⟩ := hx 0 hl
  have hb := World.block_lt_of_cell? w _ h2
  simp at this
  rw [this.1]
  exact hb

set_option maxRecDepth 100000 in
set_option maxHeartbeats 1000000 in
theorem long_any (n : Nat) (x : Nat) (w : World) (hn : n ≤ 1000000) (hx : x ≤ 255) :
    Calls Try.prog 77 #[.int .i64 (n : Int), .int .u8 (x : Int)] w fun e w' => e = .returned (.string ⟨(List.replicate n (UInt8.ofNat x)).toArray⟩) ∧ Below w.heap.size w w' := by
  obtain ⟨i0, hi, hz0, hz1, hz2⟩ := info_parts Try.infoB
  go_enter Try.func77, Try.ntmps77
  go_wp2_with (at_make; refine wpList_make_full _ rfl _ _ 22 rfl w.heap.size 5 i0 (.int .u8 0) 1 Try.underlying22 hi hz0 hz1 _ _ _ _ n rfl rfl (by omega) (by omega) (by rw [hz2]; omega) (by unfold maxLen; omega) (Nat.le_refl _) ?_; intro w0 hown0 hgrow0)
  have hb0 : Below w.heap.size w w0 := (Below.refl _ _).grown hgrow0 (Nat.le_refl _) (fun k hk => by cases hk)
  obtain ⟨ms, hms⟩ : ∃ ms, ms = (madeCells (Value.int IntKind.u8 0).cells (n * 1)).toList := ⟨_, rfl⟩
  rw [← hms] at hown0
  have hml : ms.length = n := by simpa using hown0.1
  have HML : Hid (ms.length = n) := hml
  clear hms hml hgrow0
  go_loopw [6] (fun i wr => ∃ k : Nat, i = .int .i64 k ∧ k ≤ n ∧ wr.ownsRow w.heap.size 5 1 (.slice (some ⟨w.heap.size, 0, none⟩) n n) n (bytesV (List.replicate k (UInt8.ofNat x)) ++ ms.drop k) ∧ Below w.heap.size w wr) (fun i _ => n - (intOf i).toNat)
  case atStart => exact ⟨0, rfl, by omega, by simpa [bytesV] using hown0, hb0⟩
  case round =>
    obtain ⟨k, rfl, hk, hown, hb⟩ := hrel
    by_cases hlt : k < n
    · have hki : (k : Int) < (n : Int) := by omega
      have hst := (hown.stored k (.int .u8 (x : Int))).1
      have hset : (bytesV (List.replicate k (UInt8.ofNat x)) ++ ms.drop k).set k (.int .u8 (x : Int)) = bytesV (List.replicate (k + 1) (UInt8.ofNat x)) ++ ms.drop (k + 1) := by
        have hl : (bytesV (List.replicate k (UInt8.ofNat x))).length = k := by simp [bytesV]
        have hm := HML.out
        rw [List.set_append_right _ _ (by omega), hl, Nat.sub_self, List.drop_eq_getElem_cons (by omega), List.set_cons_zero, List.replicate_succ', ← bytesV_push _ (UInt8.ofNat x) (x : Int) (byte_of x (by omega))]
        simp
      rw [hset] at hst
      have hfz := hown.frozenAt k
      have hc1 : ∃ u, wr.cell? ⟨w.heap.size, k, none⟩ = some u := by
        rw [hown.cellAt k (by omega)]
        exact ⟨_, List.getElem?_eq_getElem (by have := HML.out; simp [bytesV]; omega)⟩
      obtain ⟨u, hc1⟩ := hc1
      have hb2 : Below w.heap.size w (wr.setCell ⟨w.heap.size, k, none⟩ (.int .u8 (x : Int))) := hb.setCell (Nat.le_refl _) _
      clear hown hset
      go_wp2
      go_roundw
      case rel => first | exact ⟨k + 1, by go_num, by omega, hst, hb2⟩ | ((repeat apply Exists.intro); exact ⟨⟨k + 1, by go_num, by omega, hst, hb2⟩, rfl⟩)
      case measure => simp [intOf]; omega
    · have hkk : k = n := by omega
      subst hkk
      have hd : ms.drop k = [] := List.drop_eq_nil_of_le (by have := HML.out; omega)
      rw [hd, List.append_nil] at hown
      have hcv := own_convert (P := Try.prog) hown Try.underlying22 Try.underlying5 Try.underlying9
      clear hown hd
      go_wp2
      go_ret
      exact ⟨rfl, hb⟩

set_option maxRecDepth 100000 in
set_option maxHeartbeats 1000000 in
theorem pick_any (n : Nat) (cs : Array Value) (q : Nat) (p : Nat) (a : Option Addr) (len cap : Nat) (w : World) (hC : Cur w p a len cap) (hq : w.heap[q]? = some (.cells cs 3 (0, 0))) (hqp : q ≠ p) (h0 : 0 < n) (hn : n ≤ 256) (hcs : cs.size = n)
    (hall : ∀ j, j < n → ∃ z : Int, -9223372036854775808 ≤ z ∧ z ≤ 9223372036854775807 ∧ cs[j]? = some (.int .i64 z)) :
    Calls Try.prog 66 #[.pointer (some ⟨p, 0, none⟩), .slice (some ⟨q, 0, none⟩) n n] w fun e w' => ∃ z : Int, -9223372036854775808 ≤ z ∧ z ≤ 9223372036854775807 ∧ e = .returned (.int .i64 z) ∧ Cur w' p a len cap ∧ w.grownBy w' (some p) := by
  have HC : Hid (Cur w p a len cap) := hC
  have HA : Hid (∀ j, j < n → ∃ z : Int, -9223372036854775808 ≤ z ∧ z ≤ 9223372036854775807 ∧ cs[j]? = some (.int .i64 z)) := hall
  have HQ : Hid (w.heap[q]? = some (.cells cs 3 (0, 0))) := hq
  clear hC hall hq hcs
  go_enter Try.func66, Try.ntmps66
  go_wp2_with fail
  refine (below_any n p a len cap _ HC.out (by omega)).mono ?_
  rintro e w1 ⟨x, hx, _, _, rfl, hc1, hg1⟩
  have hxn := hx h0
  obtain ⟨z, z1, z2, hz⟩ := HA.out x hxn
  have hq1 : w1.heap[q]? = some (.cells cs 3 (0, 0)) := (hg1.block q (Array.getElem?_eq_some_iff.1 HQ.out).1 (by simpa using hqp)).trans HQ.out
  have hcell : w1.cell? ⟨q, x, none⟩ = some (.int .i64 z) := cell_in hq1 hz
  have hxi : (x : Int) < (n : Int) := by omega
  clear hq1 hx hz
  go_wp2
  go_ret
  exact ⟨z, z1, z2, rfl, hc1, hg1⟩

/-- What grows from a new cursor's block on turns nothing that was there. -/
theorem below_new {w w1 w2 : World} (h : Below w.heap.size w w1) (hg : w1.grownBy w2 (some w.heap.size)) : Below w.heap.size w w2 :=
  h.grown hg h.size (fun k hk => by have := Option.some.inj hk; omega)

end Go.Proofs.Ytakcmiijnckaaaa
