/- The contracts of chapter 3 at lists of bytes, with letters for what they answer. -/
import Derived.Test.YtfbdbeaijkhbfaaDoorDigHex
import Derived.Test.YtfbdbeaijkhbfaaDoorCutD
import Derived.Test.YtfbdbeaijkhbfaaDoorPadI
import Derived.Test.YtfbdbeaijkhbfaaDoorTurnD
namespace Go.Proofs.YtfbdbeaijkhbfaaDoor
open Go.RowKit
set_option linter.unusedVariables false

theorem tabs_below {w w' : World} (h : TabK w ∧ TabB w) (b : Below w.heap.size w w') : TabK w' ∧ TabB w' := ⟨h.1.below b h.1.pos, h.2.below b h.2.pos⟩

theorem iDigest_list (L : List UInt8) (D : ByteArray) (w : World) (hD : D = ⟨(digestL L).toArray⟩) (hs : L.length ≤ 1000) (hT : TabK w ∧ TabB w) :
    Calls Tryd.prog 11 #[.string ⟨L.toArray⟩] w fun e w' => e = .returned (.string D) ∧ Below w.heap.size w w' := by
  subst hD; exact iDigest_any ⟨L.toArray⟩ w (by show L.toArray.size ≤ _; rw [List.size_toArray]; omega) hT.1 hT.2

theorem sDigest_list (L : List UInt8) (D : ByteArray) (w : World) (hD : D = ⟨(digestL L).toArray⟩) (hs : L.length ≤ 1000) :
    Calls Tryd.prog 12 #[.string ⟨L.toArray⟩] w fun e w' => e = .returned (.string D) ∧ Below w.heap.size w w' := by
  subst hD; exact sDigest_any ⟨L.toArray⟩ w (by show L.toArray.size ≤ _; rw [List.size_toArray]; omega)

theorem iCut_list (L : List UInt8) (D X : ByteArray) (n : Nat) (w : World) (hD : D = ⟨(digestL L).toArray⟩) (hs : L.length ≤ 1000) (h1 : 1 ≤ n) (h2 : n ≤ 32) (hT : TabK w ∧ TabB w) (hX : D.extract 0 n = X) :
    Calls Tryd.prog 13 #[.string ⟨L.toArray⟩, .int .i64 (n : Int)] w fun e w' => e = .returned (.string X) ∧ Below w.heap.size w w' := by
  subst hD; exact iCut_in ⟨L.toArray⟩ X n w (by show L.toArray.size ≤ _; rw [List.size_toArray]; omega) h1 h2 hT.1 hT.2 hX

theorem iDigestHex_list (L : List UInt8) (w : World) (hs : L.length ≤ 1000) (hT : TabK w ∧ TabB w) :
    Calls Tryd.prog 18 #[.string ⟨L.toArray⟩] w fun e w' => ∃ X : ByteArray, X.size = 64 ∧ e = .returned (.string X) ∧ Below w.heap.size w w' := by
  refine (iDigestHex_any ⟨L.toArray⟩ w (by show L.toArray.size ≤ _; rw [List.size_toArray]; omega) hT.1 hT.2).mono ?_
  rintro e w' ⟨rfl, b⟩
  refine ⟨_, ?_, rfl, b⟩
  show (hexOf (digestL L)).toArray.size = 64
  rw [List.size_toArray, hexOf_length, digestL_length]

theorem iPad_list (L : List UInt8) (P : ByteArray) (w : World) (hP : P = ⟨(padL L).toArray⟩) (hs : L.length ≤ 1000) :
    Calls Tryd.prog 7 #[.string ⟨L.toArray⟩] w fun e w' => e = .returned (.string P) ∧ Below w.heap.size w w' := by
  subst hP; exact iPad_any ⟨L.toArray⟩ w (by show L.toArray.size ≤ _; rw [List.size_toArray]; omega)

theorem padL_take (L : List UInt8) : (padL L).take L.length = L := by
  unfold padL
  rw [List.append_assoc, List.append_assoc, List.take_left]

theorem pad_ne (L M : List UInt8) (hl : M.length = L.length) (h : M ≠ L) : (⟨(padL L).toArray⟩ : ByteArray) ≠ ⟨(padL M).toArray⟩ := by
  intro e
  have h1 : padL L = padL M := by
    have := congrArg (fun x : ByteArray => x.data.toList) e
    simpa using this
  have h2 := padL_take M
  rw [← h1, hl, padL_take] at h2
  exact h h2.symm

theorem digest_size (L : List UInt8) (D : ByteArray) (hD : D = ⟨(digestL L).toArray⟩) : D.size = 32 := by
  rw [hD]; show (digestL L).toArray.size = 32; rw [List.size_toArray]; rfl

set_option maxRecDepth 100000 in
set_option maxHeartbeats 2000000 in
theorem digestTurned_walk (a : Option Addr) (len cap : Nat) (w : World) (hR : Raw w a len) (hT : TabK w ∧ TabB w) :
    Calls Tryd.prog 4 #[.slice a len cap] w fun e w' => e = .returned (.bool true) ∧ Below w.heap.size w w' := by
  by_cases hbig : 1048576 < len
  · clear hR hT
    go_enter Tryd.func4, Tryd.ntmps4
    go_wp2_with fail
    refine (big_yes a len cap _ hbig).mono ?_
    rintro e w1 ⟨rfl, rfl⟩
    go_wp2
    go_ret
    exact ⟨rfl, Below.refl _ _⟩
  · have HC : Hid (Came w a len) := ⟨by omega, hR⟩
    have HT : Hid (TabK w ∧ TabB w) := hT
    clear hR hT
    go_enter Tryd.func4, Tryd.ntmps4
    go_wp2_with fail
    refine (big_no a len cap _ (by omega)).mono ?_
    rintro e w0 ⟨rfl, rfl⟩
    go_wp2_with fail
    refine (drawText_any a len cap _ HC.out).mono ?_
    rintro e w1 ⟨l, hl, rfl, b1⟩
    have e1 : (⟨l.toArray⟩ : ByteArray) ++ ⟨#[120]⟩ = ⟨(l ++ [120]).toArray⟩ := by
      have : (⟨#[120]⟩ : ByteArray) = ⟨[120].toArray⟩ := rfl
      rw [this, ByteArray.mk_append_mk]
    have hadd := fun wx => run_string_add_sum (P := Tryd.prog) wx ⟨l.toArray⟩ ⟨#[120]⟩ (by show l.toArray.size + 1 ≤ _; rw [List.size_toArray]; omega)
    obtain ⟨L, hL⟩ : ∃ L, L = l ++ [120] := ⟨_, rfl⟩
    have hLl : L.length = l.length + 1 := by rw [hL]; simp
    rw [← hL] at e1
    simp only [e1] at hadd
    obtain ⟨m, hm⟩ : ∃ m, m = L.length := ⟨_, rfl⟩
    have hm1 : 0 < m := by omega
    have hm2 : m ≤ 201 := by omega
    have HL : Hid (m = L.length ∧ L.length ≤ 1000) := ⟨hm, by omega⟩
    clear hL e1 hLl hm
    go_wp2_with fail
    refine (places_at a len cap _ (HC.out.below b1)).mono ?_
    rintro e w2 ⟨g, pc, zs, rfl, hg1, hg2, hcell, b2⟩
    have c2 : Below w.heap.size w w2 := b1.trans (b2.mono b1.size)
    obtain ⟨z0, hz0⟩ : ∃ z, z = zs.getD 0 0 := ⟨_, rfl⟩
    obtain ⟨z1, hz1⟩ : ∃ z, z = zs.getD 1 0 := ⟨_, rfl⟩
    obtain ⟨z2, hz2⟩ : ∃ z, z = zs.getD 2 0 := ⟨_, rfl⟩
    have p0 := hcell 0 (by omega)
    have p1 := hcell 1 (by omega)
    have p2 := hcell 2 (by omega)
    rw [← hz0] at p0
    rw [← hz1] at p1
    rw [← hz2] at p2
    clear hcell hz0 hz1 hz2 b1 b2 hadd
    go_wp2_with fail
    refine (turned_any L m g pc z0 z1 _ HL.out.1.symm hm1 (by omega) p0.2 p1.2 p0.1 p1.1).mono ?_
    rintro e w3 ⟨M, rfl, hMl, hne, b3⟩
    have q2 : w3.cell? ⟨g, 2, none⟩ = some (.int .i64 (z2 : Int)) := (b3.cell (World.block_lt_of_cell? w2 _ p2.2)).trans p2.2
    have y2 := p2.1
    have c3 : Below w.heap.size w w3 := c2.trans (b3.mono c2.size)
    obtain ⟨r, hr⟩ : ∃ r, r = z2 % 32 := ⟨_, rfl⟩
    have er : (z2 : Int) % 32 = (r : Int) := by rw [hr]; simp
    have hr3 : r < 32 := by rw [hr]; exact Nat.mod_lt _ (by omega)
    obtain ⟨n, hn⟩ : ∃ n, n = 1 + r := ⟨_, rfl⟩
    have en : 1 + (r : Int) = (n : Int) := by omega
    obtain ⟨D, hD⟩ : ∃ D : ByteArray, D = ⟨(digestL L).toArray⟩ := ⟨_, rfl⟩
    obtain ⟨E, hE⟩ : ∃ E : ByteArray, E = ⟨(digestL M).toArray⟩ := ⟨_, rfl⟩
    obtain ⟨P, hP⟩ : ∃ P : ByteArray, P = ⟨(padL L).toArray⟩ := ⟨_, rfl⟩
    obtain ⟨Q, hQ⟩ : ∃ Q : ByteArray, Q = ⟨(padL M).toArray⟩ := ⟨_, rfl⟩
    obtain ⟨X, hX⟩ : ∃ X : ByteArray, D.extract 0 n = X := ⟨_, rfl⟩
    have hPQ : (P.toList == Q.toList) = false := by
      have h1 : ¬ P = Q := by rw [hP, hQ]; exact pad_ne L M (by rw [hMl, HL.out.1]) hne
      rw [ByteArray.toList_eq, ByteArray.toList_eq]
      simp only [beq_eq_false_iff_ne, ne_eq]
      exact fun h => h1 (ByteArray.ext (Array.toList_inj.1 h))
    have hDs := digest_size L D hD
    have k1 : (n : Int) ≤ (D.size : Int) := by omega
    have k2 : (0 : Int) ≤ (n : Int) := by omega
    have hn1 : 1 ≤ n := by omega
    have hn2 : n ≤ 32 := by omega
    have HD : Hid (D = ⟨(digestL L).toArray⟩ ∧ E = ⟨(digestL M).toArray⟩ ∧ P = ⟨(padL L).toArray⟩ ∧ Q = ⟨(padL M).toArray⟩ ∧ D.extract 0 n = X ∧ M.length ≤ 1000) := ⟨hD, hE, hP, hQ, hX, by omega⟩
    clear hD hE hP hQ hMl hne p0 p1 p2 hr hn hDs b3 c2 hm1 hm2 hl
    go_wp2_with fail
    refine (iDigest_list L D _ HD.out.1 HL.out.2 (tabs_below HT.out c3)).mono ?_
    rintro e w4 ⟨rfl, b4⟩
    have c4 := c3.trans (b4.mono c3.size)
    clear b4 c3
    go_wp2_with fail
    refine (sDigest_list L D _ HD.out.1 HL.out.2).mono ?_
    rintro e w5 ⟨rfl, b5⟩
    have c5 := c4.trans (b5.mono c4.size)
    clear b5 c4
    go_wp2_with fail
    refine (iDigest_list M E _ HD.out.2.1 HD.out.2.2.2.2.2 (tabs_below HT.out c5)).mono ?_
    rintro e w6 ⟨rfl, b6⟩
    have c6 := c5.trans (b6.mono c5.size)
    clear b6 c5
    go_wp2_with fail
    refine (sDigest_list M E _ HD.out.2.1 HD.out.2.2.2.2.2).mono ?_
    rintro e w7 ⟨rfl, b7⟩
    have c7 := c6.trans (b7.mono c6.size)
    clear b7 c6
    go_wp2_with fail
    refine (iCut_list L D X n _ HD.out.1 HL.out.2 hn1 hn2 (tabs_below HT.out c7) HD.out.2.2.2.2.1).mono ?_
    rintro e w8 ⟨rfl, b8⟩
    have c8 := c7.trans (b8.mono c7.size)
    clear b8 c7
    go_wp2_with fail
    refine (iDigest_list L D _ HD.out.1 HL.out.2 (tabs_below HT.out c8)).mono ?_
    rintro e w9 ⟨rfl, b9⟩
    have c9 := c8.trans (b9.mono c8.size)
    clear b9 c8
    go_wp2_with fail
    refine (iCut_out ⟨L.toArray⟩ 0 _ (by omega)).mono ?_
    rintro e w10 ⟨rfl, b10⟩
    have c10 := c9.trans (b10.mono c9.size)
    clear b10 c9
    go_wp2_with fail
    refine (iCut_out ⟨L.toArray⟩ 33 _ (by omega)).mono ?_
    rintro e w11 ⟨rfl, b11⟩
    have c11 := c10.trans (b11.mono c10.size)
    clear b11 c10
    go_wp2_with fail
    refine (iDigestHex_list M _ HD.out.2.2.2.2.2 (tabs_below HT.out c11)).mono ?_
    rintro e w12 ⟨Y, hY, rfl, b12⟩
    have c12 := c11.trans (b12.mono c11.size)
    clear b12 c11
    go_wp2_with fail
    refine (iPad_list L P _ HD.out.2.2.1 HL.out.2).mono ?_
    rintro e w13 ⟨rfl, b13⟩
    have c13 := c12.trans (b13.mono c12.size)
    clear b13 c12
    go_wp2_with fail
    refine (iPad_list M Q _ HD.out.2.2.2.1 HD.out.2.2.2.2.2).mono ?_
    rintro e w14 ⟨rfl, b14⟩
    have c14 := c13.trans (b14.mono c13.size)
    clear b14 c13
    go_wp2
    go_ret
    exact ⟨rfl, c14⟩

end Go.Proofs.YtfbdbeaijkhbfaaDoor
