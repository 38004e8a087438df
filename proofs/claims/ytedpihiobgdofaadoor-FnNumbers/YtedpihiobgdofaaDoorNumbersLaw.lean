/- The law FnNumbers answers true at every list of bytes, where the library's table of powers holds what its text lays: the walk. -/
import Derived.Test.YtedpihiobgdofaaDoorNumbersWalk
namespace Go.Proofs.YtedpihiobgdofaaDoor
open Go.RowKit
set_option linter.unusedVariables false

theorem big_no (a : Option Addr) (len cap : Nat) (w : World) (h : len ≤ 1048576) :
    Calls Tryd.prog 4 #[.slice a len cap] w fun e w' => e = .returned (.bool false) ∧ w = w' := by
  have d : decide ((1048576 : Int) < (len : Int)) = false := by simp; omega
  go_enter Tryd.func4, Tryd.ntmps4
  go_wp2
  go_ret
  exact ⟨rfl, rfl⟩

theorem big_yes (a : Option Addr) (len cap : Nat) (w : World) (h : 1048576 < len) :
    Calls Tryd.prog 4 #[.slice a len cap] w fun e w' => e = .returned (.bool true) ∧ w = w' := by
  have d : decide ((1048576 : Int) < (len : Int)) = true := by simp; omega
  go_enter Tryd.func4, Tryd.ntmps4
  go_wp2
  go_ret
  exact ⟨rfl, rfl⟩

theorem drawHex_str (a : Option Addr) (len cap : Nat) (w : World) (hC : Came w a len) :
    Calls Tryd.prog 10 #[.slice a len cap] w fun e w' => ∃ t : ByteArray, t.size ≤ 20001 ∧ e = .returned (.string t) ∧ Below w.heap.size w w' :=
  (drawHex_any a len cap w hC).mono fun e w' ⟨l, h1, h2, h3⟩ => ⟨⟨l.toArray⟩, by show l.toArray.size ≤ _; rw [List.size_toArray]; exact h1, h2, h3⟩

set_option maxRecDepth 100000 in
set_option maxHeartbeats 4000000 in
theorem numbers_walk (a : Option Addr) (len cap : Nat) (w : World) (hR : Raw w a len) (ht : Lib.TabIs Tryd.prog w "internal/strconv.uint64pow10" .u64 Lib.pow10Tab) (hz : 0 < w.heap.size) :
    Calls Tryd.prog 3 #[.slice a len cap] w fun e w' => e = .returned (.bool true) ∧ Below w.heap.size w w' := by
  by_cases hbig : 1048576 < len
  · clear hR ht
    go_enter Tryd.func3, Tryd.ntmps3
    go_wp2_with fail
    refine (big_yes a len cap _ hbig).mono ?_
    rintro e w1 ⟨rfl, rfl⟩
    go_wp2
    go_ret
    exact ⟨rfl, Below.refl _ _⟩
  · have HC : Hid (Came w a len) := ⟨by omega, hR⟩
    have HT : Hid (Lib.TabIs Tryd.prog w "internal/strconv.uint64pow10" .u64 Lib.pow10Tab) := ht
    clear hR ht
    go_enter Tryd.func3, Tryd.ntmps3
    go_wp2_with fail
    refine (big_no a len cap _ (by omega)).mono ?_
    rintro e w0 ⟨rfl, rfl⟩
    go_wp2_with fail
    refine (drawVar_any a len cap _ HC.out).mono ?_
    rintro e w1 ⟨z, z1, z2, rfl, b1⟩
    have k1 := b1.size
    obtain ⟨n, hn, hX⟩ : ∃ n : Nat, n ≤ 1000000000 ∧ (12345 : Int) = (n : Int) := ⟨12345, by omega, rfl⟩
    have HX : Hid ((12345 : Int) = (n : Int)) := hX
    clear hX
    by_cases hz0 : z < 0
    · go_wp2_with fail
      rw [HX.out]
      refine (iVarText_in n _ hn).mono ?_
      rintro e w2 ⟨rfl, b2⟩
      have k2 := b2.size
      have hvl := V_length n hn
      have hadd1 := fun wx => add_cons (P := Tryd.prog) wx 120 (V n) (by omega)
      have hadd2 := fun wx => add_snoc (P := Tryd.prog) wx (120 :: V n) 121 (by simp; omega)
      go_wp2_with fail
      refine (back_var n _ hn).mono ?_
      rintro e w3 ⟨rfl, b3⟩
      have k3 := b3.size
      clear hadd1 hadd2
      have c3 : Below w.heap.size w w3 := (b1.trans (b2.mono k1)).trans (b3.mono (by omega))
      go_wp2_with fail
      refine (fore_dec n _ hn (var?_below c3 gTab hz HT.out)).mono ?_
      rintro e w4 ⟨rfl, b4⟩
      have k4 := b4.size
      go_wp2_with fail
      refine (back_dec n _ hn).mono ?_
      rintro e w5 ⟨rfl, b5⟩
      have k5 := b5.size
      have c5 : Below w.heap.size w w5 := (c3.trans (b4.mono (by omega))).trans (b5.mono (by omega))
      clear b1 b2 b3 b4 b5 c3
      go_wp2_with fail
      refine (drawHex_str a len cap _ (HC.out.below c5)).mono ?_
      rintro e w6 ⟨t, ht, rfl, b6⟩
      have c6 : Below w.heap.size w w6 := c5.trans (b6.mono (by omega))
      have k6 := c6.size
      clear b6 c5
      by_cases h300 : 300 < t.size
      · go_wp2_with fail
        obtain ⟨t2, hs2, ht2⟩ : ∃ t2 : ByteArray, t2.size ≤ 300 ∧ (⟨#[97, 98, 99]⟩ : ByteArray) = t2 := ⟨_, by decide, rfl⟩
        rw [ht2]
        clear ht2
        refine (iShort_in t2 _ (by omega)).mono ?_
        rintro e w7 ⟨rfl, b7⟩
        have k7 := b7.size
        go_wp2_with fail
        refine (back_short t2 _ hs2).mono ?_
        rintro e w8 ⟨rfl, b8⟩
        have k8 := b8.size
        go_wp2_with fail
        refine (iHex_in t2 _ (by omega)).mono ?_
        rintro e w9 ⟨rfl, b9⟩
        have k9 := b9.size
        go_wp2_with fail
        refine (back_hex t2 _ hs2).mono ?_
        rintro e w10 ⟨rfl, b10⟩
        have c10 : Below w.heap.size w w10 := (((c6.trans (b7.mono (by omega))).trans (b8.mono (by omega))).trans (b9.mono (by omega))).trans (b10.mono (by omega))
        clear b7 b8 b9 b10 c6
        go_wp2
        all_goals go_ret
        all_goals exact ⟨by simp, c10⟩
      · have hs2 : t.size ≤ 300 := by omega
        go_wp2_with fail
        refine (iShort_in t _ (by omega)).mono ?_
        rintro e w7 ⟨rfl, b7⟩
        have k7 := b7.size
        go_wp2_with fail
        refine (back_short t _ hs2).mono ?_
        rintro e w8 ⟨rfl, b8⟩
        have k8 := b8.size
        go_wp2_with fail
        refine (iHex_in t _ (by omega)).mono ?_
        rintro e w9 ⟨rfl, b9⟩
        have k9 := b9.size
        go_wp2_with fail
        refine (back_hex t _ hs2).mono ?_
        rintro e w10 ⟨rfl, b10⟩
        have c10 : Below w.heap.size w w10 := (((c6.trans (b7.mono (by omega))).trans (b8.mono (by omega))).trans (b9.mono (by omega))).trans (b10.mono (by omega))
        clear b7 b8 b9 b10 c6
        go_wp2
        all_goals go_ret
        all_goals exact ⟨by simp, c10⟩
    · by_cases hz1 : 1000000000 < z
      · have d0 : decide (z < 0) = false := by simp; omega
        go_wp2_with fail
        rw [HX.out]
        refine (iVarText_in n _ hn).mono ?_
        rintro e w2 ⟨rfl, b2⟩
        have k2 := b2.size
        have hvl := V_length n hn
        have hadd1 := fun wx => add_cons (P := Tryd.prog) wx 120 (V n) (by omega)
        have hadd2 := fun wx => add_snoc (P := Tryd.prog) wx (120 :: V n) 121 (by simp; omega)
        go_wp2_with fail
        refine (back_var n _ hn).mono ?_
        rintro e w3 ⟨rfl, b3⟩
        have k3 := b3.size
        clear hadd1 hadd2
        have c3 : Below w.heap.size w w3 := (b1.trans (b2.mono k1)).trans (b3.mono (by omega))
        go_wp2_with fail
        refine (fore_dec n _ hn (var?_below c3 gTab hz HT.out)).mono ?_
        rintro e w4 ⟨rfl, b4⟩
        have k4 := b4.size
        go_wp2_with fail
        refine (back_dec n _ hn).mono ?_
        rintro e w5 ⟨rfl, b5⟩
        have k5 := b5.size
        have c5 : Below w.heap.size w w5 := (c3.trans (b4.mono (by omega))).trans (b5.mono (by omega))
        clear b1 b2 b3 b4 b5 c3
        go_wp2_with fail
        refine (drawHex_str a len cap _ (HC.out.below c5)).mono ?_
        rintro e w6 ⟨t, ht, rfl, b6⟩
        have c6 : Below w.heap.size w w6 := c5.trans (b6.mono (by omega))
        have k6 := c6.size
        clear b6 c5
        by_cases h300 : 300 < t.size
        · go_wp2_with fail
          obtain ⟨t2, hs2, ht2⟩ : ∃ t2 : ByteArray, t2.size ≤ 300 ∧ (⟨#[97, 98, 99]⟩ : ByteArray) = t2 := ⟨_, by decide, rfl⟩
          rw [ht2]
          clear ht2
          refine (iShort_in t2 _ (by omega)).mono ?_
          rintro e w7 ⟨rfl, b7⟩
          have k7 := b7.size
          go_wp2_with fail
          refine (back_short t2 _ hs2).mono ?_
          rintro e w8 ⟨rfl, b8⟩
          have k8 := b8.size
          go_wp2_with fail
          refine (iHex_in t2 _ (by omega)).mono ?_
          rintro e w9 ⟨rfl, b9⟩
          have k9 := b9.size
          go_wp2_with fail
          refine (back_hex t2 _ hs2).mono ?_
          rintro e w10 ⟨rfl, b10⟩
          have c10 : Below w.heap.size w w10 := (((c6.trans (b7.mono (by omega))).trans (b8.mono (by omega))).trans (b9.mono (by omega))).trans (b10.mono (by omega))
          clear b7 b8 b9 b10 c6
          go_wp2
          all_goals go_ret
          all_goals exact ⟨by simp, c10⟩
        · have hs2 : t.size ≤ 300 := by omega
          go_wp2_with fail
          refine (iShort_in t _ (by omega)).mono ?_
          rintro e w7 ⟨rfl, b7⟩
          have k7 := b7.size
          go_wp2_with fail
          refine (back_short t _ hs2).mono ?_
          rintro e w8 ⟨rfl, b8⟩
          have k8 := b8.size
          go_wp2_with fail
          refine (iHex_in t _ (by omega)).mono ?_
          rintro e w9 ⟨rfl, b9⟩
          have k9 := b9.size
          go_wp2_with fail
          refine (back_hex t _ hs2).mono ?_
          rintro e w10 ⟨rfl, b10⟩
          have c10 : Below w.heap.size w w10 := (((c6.trans (b7.mono (by omega))).trans (b8.mono (by omega))).trans (b9.mono (by omega))).trans (b10.mono (by omega))
          clear b7 b8 b9 b10 c6
          go_wp2
          all_goals go_ret
          all_goals exact ⟨by simp, c10⟩
      · clear HX hn
        clear n
        obtain ⟨n, rfl⟩ := Int.eq_ofNat_of_zero_le (show 0 ≤ z by omega)
        have hn : n ≤ 1000000000 := by omega
        have d0 : decide ((n : Int) < 0) = false := by simp
        go_wp2_with fail
        refine (iVarText_in n _ hn).mono ?_
        rintro e w2 ⟨rfl, b2⟩
        have k2 := b2.size
        have hvl := V_length n hn
        have hadd1 := fun wx => add_cons (P := Tryd.prog) wx 120 (V n) (by omega)
        have hadd2 := fun wx => add_snoc (P := Tryd.prog) wx (120 :: V n) 121 (by simp; omega)
        go_wp2_with fail
        refine (back_var n _ hn).mono ?_
        rintro e w3 ⟨rfl, b3⟩
        have k3 := b3.size
        clear hadd1 hadd2
        have c3 : Below w.heap.size w w3 := (b1.trans (b2.mono k1)).trans (b3.mono (by omega))
        go_wp2_with fail
        refine (fore_dec n _ hn (var?_below c3 gTab hz HT.out)).mono ?_
        rintro e w4 ⟨rfl, b4⟩
        have k4 := b4.size
        go_wp2_with fail
        refine (back_dec n _ hn).mono ?_
        rintro e w5 ⟨rfl, b5⟩
        have k5 := b5.size
        have c5 : Below w.heap.size w w5 := (c3.trans (b4.mono (by omega))).trans (b5.mono (by omega))
        clear b1 b2 b3 b4 b5 c3
        go_wp2_with fail
        refine (drawHex_str a len cap _ (HC.out.below c5)).mono ?_
        rintro e w6 ⟨t, ht, rfl, b6⟩
        have c6 : Below w.heap.size w w6 := c5.trans (b6.mono (by omega))
        have k6 := c6.size
        clear b6 c5
        by_cases h300 : 300 < t.size
        · go_wp2_with fail
          obtain ⟨t2, hs2, ht2⟩ : ∃ t2 : ByteArray, t2.size ≤ 300 ∧ (⟨#[97, 98, 99]⟩ : ByteArray) = t2 := ⟨_, by decide, rfl⟩
          rw [ht2]
          clear ht2
          refine (iShort_in t2 _ (by omega)).mono ?_
          rintro e w7 ⟨rfl, b7⟩
          have k7 := b7.size
          go_wp2_with fail
          refine (back_short t2 _ hs2).mono ?_
          rintro e w8 ⟨rfl, b8⟩
          have k8 := b8.size
          go_wp2_with fail
          refine (iHex_in t2 _ (by omega)).mono ?_
          rintro e w9 ⟨rfl, b9⟩
          have k9 := b9.size
          go_wp2_with fail
          refine (back_hex t2 _ hs2).mono ?_
          rintro e w10 ⟨rfl, b10⟩
          have c10 : Below w.heap.size w w10 := (((c6.trans (b7.mono (by omega))).trans (b8.mono (by omega))).trans (b9.mono (by omega))).trans (b10.mono (by omega))
          clear b7 b8 b9 b10 c6
          go_wp2
          all_goals go_ret
          all_goals exact ⟨by simp, c10⟩
        · have hs2 : t.size ≤ 300 := by omega
          go_wp2_with fail
          refine (iShort_in t _ (by omega)).mono ?_
          rintro e w7 ⟨rfl, b7⟩
          have k7 := b7.size
          go_wp2_with fail
          refine (back_short t _ hs2).mono ?_
          rintro e w8 ⟨rfl, b8⟩
          have k8 := b8.size
          go_wp2_with fail
          refine (iHex_in t _ (by omega)).mono ?_
          rintro e w9 ⟨rfl, b9⟩
          have k9 := b9.size
          go_wp2_with fail
          refine (back_hex t _ hs2).mono ?_
          rintro e w10 ⟨rfl, b10⟩
          have c10 : Below w.heap.size w w10 := (((c6.trans (b7.mono (by omega))).trans (b8.mono (by omega))).trans (b9.mono (by omega))).trans (b10.mono (by omega))
          clear b7 b8 b9 b10 c6
          go_wp2
          all_goals go_ret
          all_goals exact ⟨by simp, c10⟩

end Go.Proofs.YtedpihiobgdofaaDoor
