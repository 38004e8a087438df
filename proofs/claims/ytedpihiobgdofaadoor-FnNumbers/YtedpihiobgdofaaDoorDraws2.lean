/- What the draws of texts and numbers answer: l01Text a text of n bytes, l01Long one of n bytes, l01PickInt one of a list, l01Number an int. -/
import Derived.Test.YtedpihiobgdofaaDoorInfoB
import Derived.Test.YtedpihiobgdofaaDoorDraws
namespace Go.Proofs.YtedpihiobgdofaaDoor
open Go.RowKit
set_option linter.unusedVariables false

theorem grown_own {a b c : World} {r row : Option Nat} (h : a.grownBy b r) (k : b.grownBy c row) (hr : ∀ x, row = some x → a.heap.size ≤ x) : a.grownBy c r :=
  ⟨k.os.trans h.os, k.tape.trans h.tape, k.output.trans h.output, Nat.le_trans h.size k.size, fun i hi hne => (k.block i (Nat.lt_of_lt_of_le hi h.size) (fun e => by have := hr i e.symm; omega)).trans (h.block i hi hne)⟩

theorem Cur.lt {w : World} {p : Nat} {a : Option Addr} {len cap : Nat} (h : Cur w p a len cap) : p < w.heap.size := by
  obtain ⟨_, _, _, hc, _⟩ := h
  exact (Array.getElem?_eq_some_iff.1 hc).1

/-- A cursor is kept where nothing below B turns. -/
theorem Cur.grown {w w' : World} {p B : Nat} {a : Option Addr} {len cap : Nat} {row : Option Nat} (h : Cur w p a len cap) (hg : w.grownBy w' row) (hp : p < B) (hb : ∀ b off, a = some ⟨b, off, none⟩ → 0 < len → b < B) (hr : ∀ x, row = some x → B ≤ x) : Cur w' p a len cap :=
  h.kept hg (fun e => by have := hr p e; omega) (fun b off e hl e2 => by have := hr b e2; have := hb b off e hl; omega)

theorem Cur.code {w : World} {p : Nat} {a : Option Addr} {len cap : Nat} (h : Cur w p a len cap) : ∀ b off, a = some ⟨b, off, none⟩ → 0 < len → b < w.heap.size := by
  intro b off e hl
  obtain ⟨_, _, _, _, _, hB⟩ := h
  obtain ⟨b', off', e', _, hx⟩ := hB hl
  rw [e] at e'
  have := Option.some.inj e'
  obtain ⟨x, _, h2⟩ := hx 0 hl
  have hb := World.block_lt_of_cell? w _ h2
  simp at this
  rw [this.1]
  exact hb

set_option maxRecDepth 100000 in
set_option maxHeartbeats 1000000 in
theorem text_any (n : Nat) (p : Nat) (a : Option Addr) (len cap : Nat) (w : World) (hC : Cur w p a len cap) (hn : n ≤ 5000) :
    Calls Tryd.prog 22 #[.pointer (some ⟨p, 0, none⟩), .int .i64 (n : Int)] w fun e w' => ∃ l : List UInt8, l.length = n ∧ e = .returned (.string ⟨l.toArray⟩) ∧ Cur w' p a len cap ∧ w.grownBy w' (some p) := by
  obtain ⟨i0, hi, hz0, hz1, hz2⟩ := info_parts Tryd.infoB
  have hpl := hC.lt
  have HCO : Hid (∀ b off, a = some ⟨b, off, none⟩ → 0 < len → b < w.heap.size) := hC.code
  have HC : Hid (Cur w p a len cap) := hC
  clear hC
  go_enter Tryd.func22, Tryd.ntmps22
  go_wp2
  go_loopw [5, 6] (fun v i wr => ∃ (k : Nat) (l : List UInt8), i = .int .i64 k ∧ k ≤ n ∧ Hid (l.length = k) ∧ l.length ≤ n ∧ wr.ownsRow w.heap.size 5 1 v l.length (bytesV l) ∧ Cur wr p a len cap ∧ w.grownBy wr (some p)) (fun _ i _ => n - (intOf i).toNat)
  case atStart =>
    refine ⟨0, [], rfl, by omega, rfl, by simp, World.ownsRow_lit (e := 5) (size := 1) w #[] 0 (Nat.le_refl _) (by decide) rfl, HC.out.grown (World.grownBy_alloc w _ none) hpl HCO.out (by simp), ?_⟩
    exact World.grownBy_alloc w _ _
  case round =>
    obtain ⟨k, l, rfl, hk, hlk, hln, hown, hcur, hg⟩ := hrel
    have hgs := hg.size
    by_cases hlt : k < n
    · go_wp2_with fail
      refine (byte_any p a len cap _ hcur).mono ?_
      rintro e w1 ⟨x, hx, rfl, hc1, hg1⟩
      have hown1 := hown.kept hg1 (by
        right
        intro e2
        have := hown.lt p e2
        omega)
      have hgs1 := hg1.size
      have hg2 := grown_trans hg hg1
      clear hg1 hown hcur hg
      go_wp2_with (at_builtin; refine wpList_append_own _ rfl _ _ 22 rfl w.heap.size 5 i0 (.int .u8 0) 1 1 Tryd.underlying22 hi hz0 hz1 hz2 rfl (by decide) _ _ _ rfl (hown1.alloc _) ⟨w1.heap.size, 0, none⟩ 1 1 [.int .u8 (x : Int)] rfl rfl ?c1 ?c2 ?c3 ?c4 ?c5 ?_)
      case c1 => exact cell_one_new _ _ _
      case c2 => intro u hu; simp at hu; subst hu; rfl
      case c3 => unfold maxLen; omega
      case c4 => omega
      case c5 => simp; omega
      · intro v' w2 hown' hgrow _
        rw [bytesV_push l (UInt8.ofNat x) _ (by rw [← byte_of _ (by omega)])] at hown'
        have hlo := fun y hy => (hown1.lt y hy).1
        have hc2 : Cur w2 p a len cap := (hc1.grown (World.grownBy_alloc w1 _ none) hpl HCO.out (by simp)).grown hgrow hpl HCO.out hlo
        have hg3 : w.grownBy w2 (some p) := grown_own (grown_trans hg2 (World.grownBy_alloc w1 _ _)) hgrow hlo
        clear hgrow hown1 hc1 hg2 hlo
        go_wp2
        go_roundw
        case rel => first | exact ⟨k + 1, l ++ [UInt8.ofNat x], by go_num, by omega, by have := hlk.out; unfold Hid; simp; omega, by have := hlk.out; simp; omega, by simpa using hown', hc2, hg3⟩ | ((repeat apply Exists.intro); exact ⟨⟨k + 1, l ++ [UInt8.ofNat x], by go_num, by omega, by have := hlk.out; unfold Hid; simp; omega, by have := hlk.out; simp; omega, by simpa using hown', hc2, hg3⟩, rfl⟩)
        case measure => simp [intOf]; omega
    · have hcv := own_convert (P := Tryd.prog) hown Tryd.underlying22 Tryd.underlying5 Tryd.underlying9
      clear hown
      go_wp2
      go_ret
      exact ⟨l, by have := hlk.out; omega, rfl, hcur, hg⟩

set_option maxRecDepth 100000 in
set_option maxHeartbeats 1000000 in
theorem long_any (n : Nat) (x : Nat) (w : World) (hn : n ≤ 1000000) (hx : x ≤ 255) :
    Calls Tryd.prog 20 #[.int .i64 (n : Int), .int .u8 (x : Int)] w fun e w' => e = .returned (.string ⟨(List.replicate n (UInt8.ofNat x)).toArray⟩) ∧ Below w.heap.size w w' := by
  obtain ⟨i0, hi, hz0, hz1, hz2⟩ := info_parts Tryd.infoB
  go_enter Tryd.func20, Tryd.ntmps20
  go_wp2_with (at_make; refine wpList_make_full _ rfl _ _ 22 rfl w.heap.size 5 i0 (.int .u8 0) 1 Tryd.underlying22 hi hz0 hz1 _ _ _ _ n rfl rfl (by omega) (by omega) (by rw [hz2]; omega) (by unfold maxLen; omega) (Nat.le_refl _) ?_; intro w0 hown0 hgrow0)
  have hb0 : Below w.heap.size w w0 := (Below.refl _ _).grown hgrow0 (Nat.le_refl _) (fun k hk => by cases hk)
  obtain ⟨ms, hms⟩ : ∃ ms, ms = (madeCells (Value.int IntKind.u8 0).cells (n * 1)).toList := ⟨_, rfl⟩
  rw [← hms] at hown0
  have hml : ms.length = n := by simpa using hown0.1
  have HML : Hid (ms.length = n) := hml
  clear hms hml hgrow0
  go_loopw [6] (fun i wr => ∃ k : Nat, i = .int .i64 k ∧ k ≤ n ∧ wr.ownsRow w.heap.size 5 1 (.slice (some ⟨w.heap.size, 0, none⟩) n n) n (bytesV (List.replicate k (UInt8.ofNat x)) ++ ms.drop k) ∧ Below w.heap.size w wr) (fun i _ => n - (intOf i).toNat)
  case atStart => exact ⟨0, rfl, by omega, by simpa [bytesV] using hown0, hb0⟩
  case round =>
    obtain ⟨k, rfl, hk, hown, hb⟩ := hrel
    by_cases hlt : k < n
    · have hki : (k : Int) < (n : Int) := by omega
      have hst := (hown.stored k (.int .u8 (x : Int))).1
      have hset : (bytesV (List.replicate k (UInt8.ofNat x)) ++ ms.drop k).set k (.int .u8 (x : Int)) = bytesV (List.replicate (k + 1) (UInt8.ofNat x)) ++ ms.drop (k + 1) := by
        have hl : (bytesV (List.replicate k (UInt8.ofNat x))).length = k := by simp [bytesV]
        have hm := HML.out
        rw [List.set_append_right _ _ (by omega), hl, Nat.sub_self, List.drop_eq_getElem_cons (by omega), List.set_cons_zero, List.replicate_succ', ← bytesV_push _ (UInt8.ofNat x) (x : Int) (byte_of x (by omega))]
        simp
      rw [hset] at hst
      have hfz := hown.frozenAt k
      have hc1 : ∃ u, wr.cell? ⟨w.heap.size, k, none⟩ = some u := by
        rw [hown.cellAt k (by omega)]
        exact ⟨_, List.getElem?_eq_getElem (by have := HML.out; simp [bytesV]; omega)⟩
      obtain ⟨u, hc1⟩ := hc1
      have hb2 : Below w.heap.size w (wr.setCell ⟨w.heap.size, k, none⟩ (.int .u8 (x : Int))) := hb.setCell (Nat.le_refl _) _
      clear hown hset
      go_wp2
      go_roundw
      case rel => first | exact ⟨k + 1, by go_num, by omega, hst, hb2⟩ | ((repeat apply Exists.intro); exact ⟨⟨k + 1, by go_num, by omega, hst, hb2⟩, rfl⟩)
      case measure => simp [intOf]; omega
    · have hkk : k = n := by omega
      subst hkk
      have hd : ms.drop k = [] := List.drop_eq_nil_of_le (by have := HML.out; omega)
      rw [hd, List.append_nil] at hown
      have hcv := own_convert (P := Tryd.prog) hown Tryd.underlying22 Tryd.underlying5 Tryd.underlying9
      clear hown hd
      go_wp2
      go_ret
      exact ⟨rfl, hb⟩

set_option maxRecDepth 100000 in
set_option maxHeartbeats 1000000 in
theorem pick_any (n : Nat) (cs : Array Value) (q : Nat) (p : Nat) (a : Option Addr) (len cap : Nat) (w : World) (hC : Cur w p a len cap) (hq : w.heap[q]? = some (.cells cs 3 (0, 0))) (hqp : q ≠ p) (h0 : 0 < n) (hn : n ≤ 256) (hcs : cs.size = n)
    (hall : ∀ j, j < n → ∃ z : Int, -9223372036854775808 ≤ z ∧ z ≤ 9223372036854775807 ∧ cs[j]? = some (.int .i64 z)) :
    Calls Tryd.prog 24 #[.pointer (some ⟨p, 0, none⟩), .slice (some ⟨q, 0, none⟩) n n] w fun e w' => ∃ z : Int, -9223372036854775808 ≤ z ∧ z ≤ 9223372036854775807 ∧ e = .returned (.int .i64 z) ∧ Cur w' p a len cap ∧ w.grownBy w' (some p) := by
  have HC : Hid (Cur w p a len cap) := hC
  have HA : Hid (∀ j, j < n → ∃ z : Int, -9223372036854775808 ≤ z ∧ z ≤ 9223372036854775807 ∧ cs[j]? = some (.int .i64 z)) := hall
  have HQ : Hid (w.heap[q]? = some (.cells cs 3 (0, 0))) := hq
  clear hC hall hq hcs
  go_enter Tryd.func24, Tryd.ntmps24
  go_wp2_with fail
  refine (below_any n p a len cap _ HC.out (by omega)).mono ?_
  rintro e w1 ⟨x, hx, _, _, rfl, hc1, hg1⟩
  have hxn := hx h0
  obtain ⟨z, z1, z2, hz⟩ := HA.out x hxn
  have hq1 : w1.heap[q]? = some (.cells cs 3 (0, 0)) := (hg1.block q (Array.getElem?_eq_some_iff.1 HQ.out).1 (by simpa using hqp)).trans HQ.out
  have hcell : w1.cell? ⟨q, x, none⟩ = some (.int .i64 z) := cell_in hq1 hz
  have hxi : (x : Int) < (n : Int) := by omega
  clear hq1 hx hz
  go_wp2
  go_ret
  exact ⟨z, z1, z2, rfl, hc1, hg1⟩

set_option maxRecDepth 100000 in
set_option maxHeartbeats 1000000 in
theorem number_any (p : Nat) (a : Option Addr) (len cap : Nat) (w : World) (hC : Cur w p a len cap) :
    Calls Tryd.prog 15 #[.pointer (some ⟨p, 0, none⟩)] w fun e w' => ∃ z : Int, -9223372036854775808 ≤ z ∧ z ≤ 9223372036854775807 ∧ e = .returned (.int .i64 z) ∧ Cur w' p a len cap ∧ w.grownBy w' (some p) := by
  have hpl := hC.lt
  have HC : Hid (Cur w p a len cap) := hC
  clear hC
  go_enter Tryd.func15, Tryd.ntmps15
  go_wp2_with fail
  refine (below_any 4 p a len cap _ HC.out (by omega)).mono ?_
  rintro e w1 ⟨x, hx, _, _, rfl, hc1, hg1⟩
  have hcl1 := hc1.lt
  have hco1 := hc1.code
  by_cases e0 : x = 0
  · subst e0
    go_wp2_with fail
    refine (pick_any 10 _ w1.heap.size p a len cap _ (hc1.grown (World.grownBy_alloc w1 _ none) hcl1 hco1 (by simp)) (heap_alloc_new w1 _) (by omega) (by omega) (by omega) rfl ?_).mono ?_
    · intro j hj
      have : j = 0 ∨ j = 1 ∨ j = 2 ∨ j = 3 ∨ j = 4 ∨ j = 5 ∨ j = 6 ∨ j = 7 ∨ j = 8 ∨ j = 9 := by omega
      rcases this with rfl | rfl | rfl | rfl | rfl | rfl | rfl | rfl | rfl | rfl
      all_goals exact ⟨_, by decide, by decide, rfl⟩
    · rintro e w2 ⟨z, z1, z2, rfl, hc2, hg2⟩
      have hg3 : w.grownBy w2 (some p) := grown_trans (grown_trans hg1 (World.grownBy_alloc w1 _ _)) hg2
      go_wp2
      go_ret
      exact ⟨z, z1, z2, rfl, hc2, hg3⟩
  · have q0 : ((x : Int) == 0) = false := by simp; omega
    by_cases e1 : x = 1
    · have q1 : ((x : Int) == 1) = true := by simp; omega
      clear e0 e1
      go_wp2_with fail
      refine (below_any 1000000000 p a len cap _ hc1 (by omega)).mono ?_
      rintro e w2 ⟨y, _, hy, _, rfl, hc2, hg2⟩
      have hg3 : w.grownBy w2 (some p) := grown_trans hg1 hg2
      go_wp2
      go_ret
      exact ⟨y, by omega, by omega, rfl, hc2, hg3⟩
    · have q1 : ((x : Int) == 1) = false := by simp; omega
      clear e0 e1
      go_wp2_with fail
      refine (below_any 400 p a len cap _ hc1 (by omega)).mono ?_
      rintro e w2 ⟨y, _, hy, _, rfl, hc2, hg2⟩
      have hg3 : w.grownBy w2 (some p) := grown_trans hg1 hg2
      go_wp2
      go_ret
      exact ⟨y, by omega, by omega, rfl, hc2, hg3⟩

/-- What grows from a new cursor's block on turns nothing that was there. -/
theorem below_new {w w1 w2 : World} (h : Below w.heap.size w w1) (hg : w1.grownBy w2 (some w.heap.size)) : Below w.heap.size w w2 :=
  h.grown hg h.size (fun k hk => by have := Option.some.inj hk; omega)

theorem drawVar_any (a : Option Addr) (len cap : Nat) (w : World) (hC : Came w a len) :
    Calls Tryd.prog 5 #[.slice a len cap] w fun e w' => ∃ z : Int, -9223372036854775808 ≤ z ∧ z ≤ 9223372036854775807 ∧ e = .returned (.int .i64 z) ∧ Below w.heap.size w w' := by
  go_enter Tryd.func5, Tryd.ntmps5
  go_wp2_with fail
  refine (new_any a len cap _ hC).mono ?_
  rintro e w1 ⟨rfl, hc1, hb1⟩
  go_wp2_with fail
  refine (number_any _ a len cap _ hc1).mono ?_
  rintro e w2 ⟨z, z1, z2, rfl, hc2, hg2⟩
  have hb := below_new hb1 hg2
  go_wp2
  go_ret
  exact ⟨z, z1, z2, rfl, hb⟩

set_option maxRecDepth 100000 in
theorem drawHex_any (a : Option Addr) (len cap : Nat) (w : World) (hC : Came w a len) :
    Calls Tryd.prog 10 #[.slice a len cap] w fun e w' => ∃ l : List UInt8, l.length ≤ 20001 ∧ e = .returned (.string ⟨l.toArray⟩) ∧ Below w.heap.size w w' := by
  go_enter Tryd.func10, Tryd.ntmps10
  go_wp2_with fail
  refine (new_any a len cap _ hC).mono ?_
  rintro e w1 ⟨rfl, hc1, hb1⟩
  go_wp2_with fail
  refine (once_any 60 _ a len cap _ hc1 (by omega)).mono ?_
  rintro e w2 ⟨b, rfl, hc2, hg2⟩
  have hb2 := below_new hb1 hg2
  cases b
  · go_wp2_with fail
    refine (below_any 30 _ a len cap _ hc2 (by omega)).mono ?_
    rintro e w3 ⟨x, hx, _, _, rfl, hc3, hg3⟩
    have hx30 := hx (by omega)
    have hb3 := below_new hb2 hg3
    clear hx
    go_wp2_with fail
    refine (text_any x _ a len cap _ hc3 (by omega)).mono ?_
    rintro e w4 ⟨l, hl, rfl, hc4, hg4⟩
    have hb4 := below_new hb3 hg4
    have hl' : l.length ≤ 20001 := by omega
    clear hl
    go_wp2
    go_ret
    exact ⟨l, hl', rfl, hb4⟩
  · go_wp2_with fail
    refine (below_any 2 _ a len cap _ hc2 (by omega)).mono ?_
    rintro e w3 ⟨x, hx, _, _, rfl, hc3, hg3⟩
    have hx2 := hx (by omega)
    have hb3 := below_new hb2 hg3
    have hz := hb3.size
    clear hx
    go_wp2_with fail
    rw [show ((20000 : Int) + (x : Int)) = ((20000 + x : Nat) : Int) by omega]
    refine (long_any (20000 + x) 200 _ (by omega) (by omega)).mono ?_
    rintro e w4 ⟨rfl, hb4⟩
    have hb5 := hb3.trans (hb4.mono hz)
    go_wp2
    go_ret
    exact ⟨_, by simp; omega, rfl, hb5⟩

end Go.Proofs.YtedpihiobgdofaaDoor
