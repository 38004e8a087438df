/- The law FnTurned answers true at every list of bytes, where the table of 16 holds what its text lays. -/
import Derived.Test.YtjanhiaadjbleaaDoorTurnMath
import Derived.Test.YtjanhiaadjbleaaDoorPlaces
import Derived.Deep.RegionHeld3
import Derived.Lib.ConvBytes
namespace Go.Proofs.YtjanhiaadjbleaaDoor
open Go.RowKit
set_option linter.unusedVariables false

def Raw (w : World) (a : Option Addr) (len : Nat) : Prop :=
  0 < len → ∃ b off, a = some ⟨b, off, none⟩ ∧ ∀ j, j < len → ∃ x : Nat, x ≤ 255 ∧ w.cell? ⟨b, off + j, none⟩ = some (.int .u8 (x : Int))

theorem big_no (a : Option Addr) (len cap : Nat) (w : World) (h : len ≤ 1048576) :
    Calls Tryd.prog 8 #[.slice a len cap] w fun e w' => e = .returned (.bool false) ∧ w = w' := by
  have d : decide ((1048576 : Int) < (len : Int)) = false := by simp; omega
  go_enter Tryd.func8, Tryd.ntmps8
  go_wp2
  go_ret
  exact ⟨rfl, rfl⟩

theorem big_yes (a : Option Addr) (len cap : Nat) (w : World) (h : 1048576 < len) :
    Calls Tryd.prog 8 #[.slice a len cap] w fun e w' => e = .returned (.bool true) ∧ w = w' := by
  have d : decide ((1048576 : Int) < (len : Int)) = true := by simp; omega
  go_enter Tryd.func8, Tryd.ntmps8
  go_wp2
  go_ret
  exact ⟨rfl, rfl⟩

theorem drawSum_any (a : Option Addr) (len cap : Nat) (w : World) (hC : Came w a len) :
    Calls Tryd.prog 9 #[.slice a len cap] w fun e w' => ∃ l : List UInt8, l.length < 40 ∧ e = .returned (.string ⟨l.toArray⟩) ∧ Below w.heap.size w w' := by
  go_enter Tryd.func9, Tryd.ntmps9
  go_wp2_with fail
  refine (new_any a len cap _ hC).mono ?_
  rintro e w1 ⟨rfl, hc1, hb1⟩
  go_wp2_with fail
  refine (below_any 40 _ a len cap _ hc1 (by omega)).mono ?_
  rintro e w2 ⟨x, hx, _, _, rfl, hc2, hg2⟩
  have hx40 := hx (by omega)
  have hb2 := below_new hb1 hg2
  clear hx
  go_wp2_with fail
  refine (text_any x _ a len cap _ hc2 (by omega)).mono ?_
  rintro e w3 ⟨l, hl, rfl, hc3, hg3⟩
  have hb3 := below_new hb2 hg3
  have hl' : l.length < 40 := by omega
  clear hl
  go_wp2
  go_ret
  exact ⟨l, hl', rfl, hb3⟩

theorem places_at (a : Option Addr) (len cap : Nat) (w : World) (hC : Came w a len) :
    Calls Tryd.prog 10 #[.slice a len cap] w fun e w' => ∃ (g c : Nat) (l : List Nat), e = .returned (.slice (some ⟨g, 0, none⟩) 12 c) ∧ w.heap.size ≤ g ∧ g < w'.heap.size ∧ (∀ j, j < 12 → l.getD j 0 < 10000 ∧ w'.cell? ⟨g, j, none⟩ = some (.int .i64 ((l.getD j 0 : Nat) : Int))) ∧ Below w.heap.size w w' := by
  refine (places_any a len cap w hC).mono ?_
  rintro e w' ⟨v, l, rfl, hl, hz, hown, hb⟩
  rcases hown.2 with ⟨rfl, h0⟩ | ⟨g, c, cur, rfl, hg, hh, rest⟩
  · omega
  · refine ⟨g, c, l, rfl, hg, (Array.getElem?_eq_some_iff.1 hh).1, fun j hj => ?_, hb⟩
    have hj' : j < l.length := by omega
    have e1 : l.getD j 0 = l[j] := by rw [List.getD_eq_getElem?_getD, List.getElem?_eq_getElem hj']; rfl
    rw [e1]
    refine ⟨hz _ (List.getElem_mem hj'), ?_⟩
    have := hown.cellAt j (by omega)
    rw [this]
    simp [intsV, hj']

/-- '[]byte(s)': the bytes in a new row that may be written. -/
theorem conv_bytes (L : List UInt8) (m : Nat) (hm : L.length = m) (w : World) : ∃ w5 c, (convert 9 22 (.string ⟨L.toArray⟩)).run Tryd.prog w = .ok (.slice (some ⟨w.heap.size, 0, none⟩) m c) w5 ∧ Below w.heap.size w w5 ∧ w5.heap.size = w.heap.size + 1 ∧
    ∀ j, j < m → ∃ b : UInt8, L[j]? = some b ∧ w5.cell? ⟨w.heap.size, j, none⟩ = some (.int .u8 (b.toNat : Int)) ∧ w5.frozen? ⟨w.heap.size, j, none⟩ = false := by
  have hs : (⟨L.toArray⟩ : ByteArray).size = m := by show L.toArray.size = _; rw [List.size_toArray, hm]
  refine ⟨Lib.bytesWorld w 5 ⟨L.toArray⟩, grownCap w m 0 5, ?_, ⟨rfl, rfl, rfl, ?_, fun j hj => Lib.bytesWorld_at_old w 5 _ j hj⟩, Lib.bytesWorld_size _ _ _, fun j hj => ?_⟩
  · rw [Lib.run_convert_string_bytes w 9 22 5 ⟨L.toArray⟩ Tryd.underlying9 Tryd.underlying22 Tryd.underlying5, hs]
  · rw [Lib.bytesWorld_size]; omega
  · have hj' : j < L.length := by omega
    refine ⟨L[j], List.getElem?_eq_getElem hj', ?_, ?_⟩
    · rw [Lib.bytesWorld_cell w 5 ⟨L.toArray⟩ j (by omega)]
      simp [List.getD, hj']
    · unfold World.frozen?
      simp only [Lib.bytesWorld_at_new]
      simp [Lib.bytesCells]
      omega

theorem more_x (x y : Nat) (w : World) (hx : x < 4294967296) (hT : Tab w) (hy : y = sumL x [120]) :
    Calls Tryd.prog 13 #[.int .u32 (x : Int), .string ⟨#[120]⟩] w fun e w' => e = .returned (.int .u32 (y : Int)) ∧ w = w' := by
  subst hy; exact iSumMore_any x ⟨#[120]⟩ w hx (by decide) hT

theorem iSumOf_x (l : List UInt8) (x y : Nat) (w : World) (hl : l.length < 40) (hT : Tab w) (hx : x = sumI l) (hy : y = sumL x [120]) :
    Calls Tryd.prog 14 #[.string (⟨l.toArray⟩ ++ ⟨#[120]⟩)] w fun e w' => e = .returned (.int .u32 (y : Int)) ∧ w = w' := by
  have e1 : (⟨l.toArray⟩ : ByteArray) ++ ⟨#[120]⟩ = ⟨(l ++ [120]).toArray⟩ := by
    have : (⟨#[120]⟩ : ByteArray) = ⟨[120].toArray⟩ := rfl
    rw [this, ByteArray.mk_append_mk]
  rw [e1]
  refine iSumOf_at _ y w (by show (l ++ [120]).toArray.size ≤ _; rw [List.size_toArray]; simp; omega) hT ?_
  rw [hy, hx, sumT_list]
  unfold sumI
  rw [sumL_append]

set_option maxRecDepth 100000 in
set_option maxHeartbeats 4000000 in
theorem turned_walk (a : Option Addr) (len cap : Nat) (w : World) (hR : Raw w a len) (ht : Tab w) :
    Calls Tryd.prog 3 #[.slice a len cap] w fun e w' => e = .returned (.bool true) ∧ Below w.heap.size w w' := by
  by_cases hbig : 1048576 < len
  · clear hR ht
    go_enter Tryd.func3, Tryd.ntmps3
    go_wp2_with fail
    refine (big_yes a len cap _ hbig).mono ?_
    rintro e w1 ⟨rfl, rfl⟩
    go_wp2
    go_ret
    exact ⟨rfl, Below.refl _ _⟩
  · have HC : Hid (Came w a len) := ⟨by omega, hR⟩
    have HT : Hid (Tab w) := ht
    have hz := ht.pos
    clear hR ht
    go_enter Tryd.func3, Tryd.ntmps3
    go_wp2_with fail
    refine (big_no a len cap _ (by omega)).mono ?_
    rintro e w0 ⟨rfl, rfl⟩
    go_wp2_with fail
    refine (drawSum_any a len cap _ HC.out).mono ?_
    rintro e w1 ⟨l, hl, rfl, b1⟩
    have k1 := b1.size
    go_wp2_with fail
    refine (places_at a len cap _ (HC.out.below b1)).mono ?_
    rintro e w2 ⟨g, pc, zs, rfl, hg1, hg2, hcell, b2⟩
    have c2 : Below w.heap.size w w2 := b1.trans (b2.mono k1)
    have k2 := c2.size
    obtain ⟨n, hn⟩ : ∃ n, n = l.length := ⟨_, rfl⟩
    obtain ⟨L, hL⟩ : ∃ L, L = l ++ four (sumI l) := ⟨_, rfl⟩
    have hLl : L.length = n + 4 := by rw [hL, hn]; simp [four]
    have HL : Hid (L = l ++ four (sumI l) ∧ n = l.length) := ⟨hL, hn⟩
    clear b1 b2
    go_wp2_with fail
    refine (iSealed_list l _ (by omega) (HT.out.below c2 hz)).mono ?_
    rintro e w3 ⟨rfl, b3⟩
    rw [← hL]
    have c3 : Below w.heap.size w w3 := c2.trans (b3.mono k2)
    have k3 := b3.size
    clear hL
    go_wp2_with fail
    refine (iUnsealed_list L n _ hLl (by omega) (HT.out.below c3 hz)).mono ?_
    rintro e w4 ⟨rfl, b4⟩
    rw [show UnsealedV n L = .tuple #[.string ⟨l.toArray⟩, .bool true] by rw [HL.out.1]; exact UnsealedV_sealed l n HL.out.2.symm]
    have k4 := b4.size
    have c4 : Below w.heap.size w w4 := c3.trans (b4.mono (by omega))
    have d4 : Below w2.heap.size w2 w4 := b3.trans (b4.mono k3)
    have kk := c4.size
    clear b3 b4 c3
    obtain ⟨m, hm⟩ : ∃ m, m = n + 4 := ⟨_, rfl⟩
    obtain ⟨w5, bc, hcv, b5, s5, hbytes⟩ := conv_bytes L m (by omega) w4
    obtain ⟨z0, hz0⟩ : ∃ z, z = zs.getD 0 0 := ⟨_, rfl⟩
    obtain ⟨z1, hz1⟩ : ∃ z, z = zs.getD 1 0 := ⟨_, rfl⟩
    have p0 := hcell 0 (by omega)
    have p1 := hcell 1 (by omega)
    rw [← hz0] at p0
    rw [← hz1] at p1
    clear hcell hz0 hz1
    have d5 : Below w2.heap.size w2 w5 := d4.trans (b5.mono d4.size)
    have c5 : Below w.heap.size w w5 := c4.trans (b5.mono (by omega))
    have q0 : w5.cell? ⟨g, 0, none⟩ = some (.int .i64 (z0 : Int)) := (d5.cell hg2).trans p0.2
    have q1 : w5.cell? ⟨g, 1, none⟩ = some (.int .i64 (z1 : Int)) := (d5.cell hg2).trans p1.2
    have y0 := p0.1
    have y1 := p1.1
    clear p0 p1
    obtain ⟨i, hi⟩ : ∃ i, i = z0 % m := ⟨_, rfl⟩
    have hi1 : i < m := by rw [hi]; exact Nat.mod_lt _ (by omega)
    obtain ⟨d, hd⟩ : ∃ d, d = 1 + z1 % 255 := ⟨_, rfl⟩
    have hd1 : d < 256 := by omega
    obtain ⟨c, hc, hcc, hfz⟩ := hbytes i hi1
    have e1 : (z0 : Int) % (m : Int) = (i : Int) := by rw [hi]; simp
    have e2 : (z1 : Int) % 255 + 1 = (d : Int) := by rw [hd]; omega
    have e3 : 1 + (z1 : Int) % 255 = (d : Int) := by rw [hd]; omega
    have hclt : c.toNat < 256 := c.toNat_lt
    have ex : bits .xor .u8 (c.toNat : Int) (d : Int) = ((c.toNat ^^^ d : Nat) : Int) := u8_xor_nat _ _ hclt hd1
    have HX : Hid (0 < d) := by unfold Hid; omega
    have HM : Hid (m = n + 4) := hm
    have HB : Hid (Below w.heap.size w w5 ∧ w5.heap.size = w4.heap.size + 1 ∧ (∀ j, j < m → ∃ b : UInt8, L[j]? = some b ∧ w5.cell? ⟨w4.heap.size, j, none⟩ = some (.int .u8 (b.toNat : Int)) ∧ w5.frozen? ⟨w4.heap.size, j, none⟩ = false)) := ⟨c5, s5, hbytes⟩
    have m0 : (0 : Int) < (m : Int) := by omega
    have i0 : (i : Int) < (m : Int) := by omega
    have d0 : (d : Int) < 256 := by omega
    obtain ⟨r, hr⟩ : ∃ r, r = z1 % 255 := ⟨_, rfl⟩
    have t1 : (z1 : Int).tmod 255 = (r : Int) := by rw [Int.tmod_eq_emod_of_nonneg (by omega), hr]; simp
    have t2 : IntKind.i64.wrap (r : Int) = (r : Int) := IntWalk.i64_in _ (by omega)
    have t3 : IntKind.i64.wrap (1 + (r : Int)) = (d : Int) := by rw [IntWalk.i64_in _ (by omega)]; omega
    have t4 : IntKind.u8.wrap (d : Int) = (d : Int) := IntWalk.u8_in _ (by omega)
    clear hi hd hm hr c4 d4 b5 d5 c5 hbytes c2 e2 e3
    go_wp2
    go_region
    obtain ⟨w6, hw6⟩ : ∃ w6, w6 = (w5.setCell ⟨w4.heap.size, i, none⟩ (.int .u8 ((c.toNat ^^^ d : Nat) : Int))).drew := ⟨_, rfl⟩
    rw [← hw6]
    obtain ⟨M, hM⟩ : ∃ M, M = L.set i (UInt8.ofNat (c.toNat ^^^ d)) := ⟨_, rfl⟩
    have hMl : M.length = n + 4 := by rw [hM, List.length_set]; exact hLl
    have hMm : M.length = m := by rw [hMl, HM.out]
    have c6 : Below w.heap.size w w6 := by rw [hw6]; exact (HB.out.1.setCell kk _).drew
    have hx8 : c.toNat ^^^ d < 256 := by
      have h1 : c.toNat < 2 ^ 8 := by omega
      have h2 : d < 2 ^ 8 := by omega
      have := Nat.xor_lt_two_pow h1 h2
      omega
    have hback : (convert 22 9 (.slice (some ⟨w4.heap.size, 0, none⟩) m bc)).run Tryd.prog w6 = .ok (.string ⟨M.toArray⟩) w6 := by
      rw [← hMm]
      refine run_convert_bytes_back w6 22 9 5 ⟨w4.heap.size, 0, none⟩ bc M Tryd.underlying22 Tryd.underlying5 Tryd.underlying9 (fun j hj => ?_)
      rw [Addr.add_lit, Nat.zero_add, hw6]
      obtain ⟨b, hb1, hb2, _⟩ := HB.out.2.2 j (by omega)
      show (w5.setCell ⟨w4.heap.size, i, none⟩ (.int .u8 ((c.toNat ^^^ d : Nat) : Int))).cell? ⟨w4.heap.size, j, none⟩ = _
      by_cases hji : j = i
      · subst hji
        rw [World.cell?_setCell_same _ _ _ hb2]
        have : M[j] = UInt8.ofNat (c.toNat ^^^ d) := by simp [hM]
        rw [this, ← byte_of _ hx8]
      · rw [World.cell?_setCell_other _ _ _ _ (fun e => hji (by simpa using (congrArg Addr.off e).symm)), hb2]
        have h3 : M[j] = b := by
          have h4 : M[j]? = some b := by rw [hM, List.getElem?_set_ne (by omega)]; exact hb1
          rw [List.getElem?_eq_getElem hj] at h4
          exact Option.some.inj h4
        rw [h3]
    have hno : UnsealedV n M = no2 := by
      rw [hM, HL.out.1]
      refine UnsealedV_turned l n i _ c HL.out.2.symm (by have := HM.out; omega) (by rw [← HL.out.1]; exact hc) ?_
      intro e
      refine u8_xor_ne c.toNat d HX.out hd1 hclt ?_
      rw [e]; simp
    have HN : Hid (UnsealedV n M = no2) := hno
    clear hw6 hM hno q0 q1 hcc hfz hc ex
    go_wp2_with fail
    refine (iUnsealed_list M n _ hMl (by omega) (HT.out.below c6 hz)).mono ?_
    rintro e w7 ⟨rfl, b7⟩
    rw [HN.out]
    unfold no2
    have c7 : Below w.heap.size w w7 := c6.trans (b7.mono c6.size)
    clear b7 hback c6
    have HT7 : Hid (Tab w7) := HT.out.below c7 hz
    have hadd := fun wx => run_string_add_sum (P := Tryd.prog) wx ⟨l.toArray⟩ ⟨#[120]⟩ (by show l.toArray.size + 1 ≤ _; rw [List.size_toArray]; omega)
    obtain ⟨x, hx⟩ : ∃ x, x = sumI l := ⟨_, rfl⟩
    obtain ⟨y, hy⟩ : ∃ y, y = sumL x [120] := ⟨_, rfl⟩
    have hx32 : x < 4294967296 := by rw [hx]; exact sumL_lt _ _ (by omega)
    have HXY : Hid (x = sumI l ∧ y = sumL x [120]) := ⟨hx, hy⟩
    clear hx hy
    go_wp2_with fail
    refine (iSumOf_at ⟨l.toArray⟩ x _ (by show l.toArray.size ≤ _; rw [List.size_toArray]; omega) HT7.out HXY.out.1).mono ?_
    rintro e w8 ⟨rfl, rfl⟩
    go_wp2_with fail
    refine (more_x x y _ hx32 HT7.out HXY.out.2).mono ?_
    rintro e w8 ⟨rfl, rfl⟩
    go_wp2_with fail
    refine (iSumOf_x l x y _ (by omega) HT7.out HXY.out.1 HXY.out.2).mono ?_
    rintro e w8 ⟨rfl, rfl⟩
    go_wp2
    go_ret
    exact ⟨rfl, c7⟩

end Go.Proofs.YtjanhiaadjbleaaDoor
